/- Courses: both texts' 'is this a course'; the square that a border's own rules allow. -/
import Derived.Test.YtnhcmjfmfgoakaaF
namespace Go.Proofs.Ytnhcmjfmfgoakaa
open Go.RowKit

theorem course_no {zs : List Int} {k : Nat} (h : k < zs.length) (hf : inB (zs.getD k 0) 1 90 = false) : courseB zs = false := by
  have : zs.all (fun z => inB z 1 90) = false := by
    rw [List.all_eq_false]
    exact ⟨zs[k], List.getElem_mem h, by simpa [List.getD, h] using hf⟩
  simp [courseB, this]
theorem course_yes {zs : List Int} (h : ∀ i, i < zs.length → inB (zs.getD i 0) 1 90 = true) : courseB zs = inB zs.length 1 200 := by
  have : zs.all (fun z => inB z 1 90) = true := by
    rw [List.all_eq_true]
    intro z hz
    obtain ⟨i, hi, rfl⟩ := List.getElem_of_mem hz
    simpa [List.getD, hi] using h i hi
  simp [courseB, this]
theorem course_len {zs : List Int} (h : inB zs.length 1 200 = false) : courseB zs = false := by simp [courseB, h]

set_option maxHeartbeats 800000 in
theorem c44 (a : Option Addr) (cap : Nat) (zs : List Int) (w : World) (hz : Ints w a zs) (hl : zs.length ≤ 1048576) :
    Calls Try.prog 44 #[.slice a zs.length cap] w fun e w' => e = .returned (.bool (courseB zs)) ∧ w' = w := by
  cases h0 : inB zs.length 1 200
  · have R := hide (course_len h0)
    go_enter Try.func44, Try.ntmps44
    go_wp2_with fail
    refine (c53 _ _ _ _).mono ?_
    rintro e w1 ⟨rfl, hw⟩
    subst hw
    rw [h0]
    go_wp2
    go_ret
    exact ⟨ret_bool R.out.symm, rfl⟩
  go_enter Try.func44, Try.ntmps44
  go_wp2_with fail
  refine (c53 _ _ _ _).mono ?_
  rintro e w1 ⟨rfl, hw⟩
  subst hw
  rw [h0]
  go_wp2
  go_loop [4, 11] (fun _ i => ∃ k : Nat, k ≤ zs.length ∧ i = .int .i64 k ∧ ∀ j, j < k → inB (zs.getD j 0) 1 90 = true) (fun _ i => zs.length - (intOf i).toNat)
  case atStart => exact ⟨0, Nat.zero_le _, rfl, fun j hj => by omega⟩
  case round =>
    obtain ⟨k, hk, rfl, hall⟩ := hrel
    by_cases hlt : k < zs.length
    · rcases hz with hz | ⟨b, off, rfl, hc⟩
      · simp [hz] at hlt
      have hck := hc k hlt
      clear hc
      cases hin : inB (zs.getD k 0) 1 90
      · have R := hide (course_no hlt hin)
        have hin := hide hin
        generalize hx : zs.getD k 0 = x at hck hin
        go_wp2_with fail
        refine (c53 _ _ _ _).mono ?_
        rintro e w1 ⟨rfl, hw⟩
        subst hw
        rw [hin.out]
        go_wp2
        go_ret
        exact ⟨ret_bool R.out.symm, rfl⟩
      · have hall' : ∀ j, j < k + 1 → inB (zs.getD j 0) 1 90 = true := by
          intro j hj
          by_cases e : j = k
          · subst e; exact hin
          · exact hall j (by omega)
        have hin := hide hin
        generalize hx : zs.getD k 0 = x at hck hin
        clear hall
        go_wp2_with fail
        refine (c53 _ _ _ _).mono ?_
        rintro e w1 ⟨rfl, hw⟩
        subst hw
        rw [hin.out]
        go_wp2
        go_round
        case rel => exact ⟨k + 1, by omega, by go_num, hall'⟩
        case measure => simp [intOf]; omega
    · obtain rfl : k = zs.length := by omega
      have R := hide ((course_yes hall).trans h0)
      clear hall
      go_wp2
      go_ret
      exact ⟨ret_bool R.out.symm, rfl⟩

set_option maxHeartbeats 800000 in
theorem c51 (a : Option Addr) (cap : Nat) (zs : List Int) (w : World) (hz : Ints w a zs) (hl : zs.length ≤ 1048576) :
    Calls Try.prog 51 #[.slice a zs.length cap] w fun e w' => e = .returned (.bool (courseB zs)) ∧ w' = w := by
  go_enter Try.func51, Try.ntmps51
  go_wp2
  go_loop [3] (fun i => ∃ k : Nat, k ≤ zs.length ∧ i = .int .i64 k ∧ ∀ j, j < k → inB (zs.getD j 0) 1 90 = true) (fun i => zs.length - (intOf i).toNat)
  case atStart => exact ⟨0, Nat.zero_le _, rfl, fun j hj => by omega⟩
  case round =>
    obtain ⟨k, hk, rfl, hall⟩ := hrel
    by_cases hlt : k < zs.length
    · rcases hz with hz | ⟨b, off, rfl, hc⟩
      · simp [hz] at hlt
      have hck := hc k hlt
      clear hc
      cases hin : inB (zs.getD k 0) 1 90
      · have R := hide (course_no hlt hin)
        have hin := hide hin
        generalize hx : zs.getD k 0 = x at hck hin
        go_wp2_with fail
        refine (c54 _ _ _ _).mono ?_
        rintro e w1 ⟨rfl, hw⟩
        subst hw
        rw [hin.out]
        go_wp2
        go_ret
        exact ⟨ret_bool R.out.symm, rfl⟩
      · have hall' : ∀ j, j < k + 1 → inB (zs.getD j 0) 1 90 = true := by
          intro j hj
          by_cases e : j = k
          · subst e; exact hin
          · exact hall j (by omega)
        have hin := hide hin
        generalize hx : zs.getD k 0 = x at hck hin
        clear hall
        go_wp2_with fail
        refine (c54 _ _ _ _).mono ?_
        rintro e w1 ⟨rfl, hw⟩
        subst hw
        rw [hin.out]
        go_wp2
        go_round
        case rel => exact ⟨k + 1, by omega, by go_num, hall'⟩
        case measure => simp [intOf]; omega
    · obtain rfl : k = zs.length := by omega
      have R := hide (course_yes hall)
      clear hall
      go_wp2_with fail
      refine (c54 _ _ _ _).mono ?_
      rintro e w1 ⟨rfl, hw⟩
      subst hw
      go_wp2
      go_ret
      exact ⟨ret_bool R.out.symm, rfl⟩

theorem sq_wrap {v : Int} (h0 : 0 ≤ v) (h1 : v ≤ 90) : IntKind.i64.wrap (v * v) = v * v := by
  have h2 : 0 ≤ v * v := Int.mul_nonneg h0 h0
  have h3 := sq_le h0 h1
  exact wrap_in _ (by omega) (by omega)

set_option maxHeartbeats 1600000 in
theorem c52 (a : Option Addr) (cap k : Nat) (m : MotorV) (zs : List Int) (w : World) (R : Right m zs) (hz : Ints w a zs) (hk : k ≤ zs.length) :
    Calls Try.prog 52 #[m.val, .slice a zs.length cap, .int .i64 k] w fun e w' => e = .returned (.int .i64 (capS m.t zs k)) ∧ Below w.heap.size w w' := by
  have n1 := R.n1
  have n0 := R.n0
  have hz1 := R.z (k - 1)
  have hz2 := R.z k
  have t0 := R.t0
  have t1 := R.t1
  have HC : Hid (capS m.t zs k = if k = 0 ∨ k = zs.length then 0 else capV m.t zs k * capV m.t zs k) := rfl
  have HV : Hid (capV m.t zs k = lo (lo m.t (zs.getD (k - 1) 0)) (zs.getD k 0)) := rfl
  obtain ⟨u, d, t⟩ := m
  unfold MotorV.val
  have hW := balloc w (.cells #[.int .i64 u, .int .i64 d, .int .i64 t] 25)
  clear R
  replace t0 : 1 ≤ t := t0
  replace t1 : t ≤ 90 := t1
  by_cases k0 : k = 0
  · subst k0
    go_enter Try.func52, Try.ntmps52
    go_wp2
    go_ret
    exact ⟨ret_int (by rw [HC.out]; simp), hW⟩
  by_cases k1 : k = zs.length
  · subst k1
    go_enter Try.func52, Try.ntmps52
    go_wp2
    go_ret
    exact ⟨ret_int (by rw [HC.out]; simp), hW⟩
  have hV : Hid (capS t zs k = capV t zs k * capV t zs k) := by show _ = _; rw [HC.out, if_neg (by omega)]
  clear HC
  rcases hz with hz | ⟨b, off, rfl, hc⟩
  · simp [hz] at n0
  have hc1 := hc (k - 1) (by omega)
  have hc2 := hc k (by omega)
  have hzz1 := hz1 (by omega)
  have hzz2 := hz2 (by omega)
  clear hz1 hz2
  generalize zs.getD (k - 1) 0 = x at *
  generalize zs.getD k 0 = y at *
  clear hc
  obtain ⟨x1, x2⟩ := hzz1
  obtain ⟨y1, y2⟩ := hzz2
  have hbw := cell_lt hc1
  obtain ⟨q, rfl⟩ : ∃ q, k = q + 1 := ⟨k - 1, by omega⟩
  rw [Nat.add_sub_cancel] at hc1
  have k1' : (q : Int) + 1 < (zs.length : Int) := by omega
  have k2' : ¬ (q : Int) + 1 = 0 := by omega
  have k3' : ¬ (q : Int) + 1 = (zs.length : Int) := by omega
  clear k0 k1 hk
  by_cases hx : x < t
  · by_cases hy : y < x
    · have E : Hid (capV t zs (q + 1) = y) := by show _ = _; rw [HV.out]; simp [lo, hx, hy]
      have hs := sq_wrap (v := y) (by omega) y2
      go_enter Try.func52, Try.ntmps52
      go_wp2
      · rename_i h; exfalso; rcases h with h | h <;> simp at h <;> omega
      go_ret
      exact ⟨ret_int (by rw [hV.out, E.out]), hW⟩
    · have E : Hid (capV t zs (q + 1) = x) := by show _ = _; rw [HV.out]; simp [lo, hx, hy]
      have hs := sq_wrap (v := x) (by omega) x2
      go_enter Try.func52, Try.ntmps52
      go_wp2
      · rename_i h; exfalso; rcases h with h | h <;> simp at h <;> omega
      go_ret
      exact ⟨ret_int (by rw [hV.out, E.out]), hW⟩
  · by_cases hy : y < t
    · have E : Hid (capV t zs (q + 1) = y) := by show _ = _; rw [HV.out]; simp [lo, hx, hy]
      have hs := sq_wrap (v := y) (by omega) y2
      go_enter Try.func52, Try.ntmps52
      go_wp2
      · rename_i h; exfalso; rcases h with h | h <;> simp at h <;> omega
      go_ret
      exact ⟨ret_int (by rw [hV.out, E.out]), hW⟩
    · have E : Hid (capV t zs (q + 1) = t) := by show _ = _; rw [HV.out]; simp [lo, hx, hy]
      have hs := sq_wrap (v := t) (by omega) t1
      go_enter Try.func52, Try.ntmps52
      go_wp2
      · rename_i h; exfalso; rcases h with h | h <;> simp at h <;> omega
      go_ret
      exact ⟨ret_int (by rw [hV.out, E.out]), hW⟩
end Go.Proofs.Ytnhcmjfmfgoakaa
