/- UseOk and Clash of program and model. -/
import Derived.Test.YtbghfihlpbcomaaGreatMB
namespace Go.Proofs.YtbghfihlpbcomaaGreat
open Go.RowKit

set_option maxHeartbeats 1600000 in
theorem cUseI (u : RideV) (w : World) : Calls Tryz.prog 87 #[u.val] w fun e w' => e = .returned (.bool (rideB u)) ∧ Below w.heap.size w w' := by
  obtain ⟨e, d, f, t, p⟩ := u
  unfold RideV.val
  have hW := balloc w (.cells #[.int .i64 e, .int .i64 d, .int .i64 f, .int .i64 t, .int .i64 p] 98)
  cases h1 : inB e 0 59
  · have R := hide (rB_e (u := ⟨e, d, f, t, p⟩) h1)
    go_enter Tryz.func87, Tryz.ntmps87
    go_wp2_with (go_at_call 39; refine (cWithin _ _ _ _).mono ?_; rintro e w' ⟨rfl, rfl⟩)
    go_ret
    exact ⟨ret_bool R.out.symm, hW⟩
  cases h2 : inB d 0 1
  · have R := hide (rB_d (u := ⟨e, d, f, t, p⟩) h2)
    go_enter Tryz.func87, Tryz.ntmps87
    go_wp2_with (go_at_call 39; refine (cWithin _ _ _ _).mono ?_; rintro e w' ⟨rfl, rfl⟩)
    go_ret
    exact ⟨ret_bool R.out.symm, hW⟩
  cases h3 : inB p 0 23
  · have R := hide (rB_p (u := ⟨e, d, f, t, p⟩) h3)
    go_enter Tryz.func87, Tryz.ntmps87
    go_wp2_with (go_at_call 39; refine (cWithin _ _ _ _).mono ?_; rintro e w' ⟨rfl, rfl⟩)
    go_ret
    exact ⟨ret_bool R.out.symm, hW⟩
  by_cases h4 : 0 ≤ f
  · by_cases h5 : f < t
    · by_cases h6 : t ≤ 100000
      · have R := hide (rB_all (u := ⟨e, d, f, t, p⟩) h1 h2 h3 h4 h5 h6)
        go_enter Tryz.func87, Tryz.ntmps87
        go_wp2_with (go_at_call 39; refine (cWithin _ _ _ _).mono ?_; rintro e w' ⟨rfl, rfl⟩)
        go_ret
        exact ⟨ret_bool R.out.symm, hW⟩
      · have R := hide (rB_t (u := ⟨e, d, f, t, p⟩) h6)
        go_enter Tryz.func87, Tryz.ntmps87
        go_wp2_with (go_at_call 39; refine (cWithin _ _ _ _).mono ?_; rintro e w' ⟨rfl, rfl⟩)
        go_ret
        exact ⟨ret_bool (by rw [R.out]; simp [h6]), hW⟩
    · have R := hide (rB_f (u := ⟨e, d, f, t, p⟩) h5)
      go_enter Tryz.func87, Tryz.ntmps87
      go_wp2_with (go_at_call 39; refine (cWithin _ _ _ _).mono ?_; rintro e w' ⟨rfl, rfl⟩)
      go_ret
      exact ⟨ret_bool R.out.symm, hW⟩
  · have R := hide (rB_0 (u := ⟨e, d, f, t, p⟩) h4)
    go_enter Tryz.func87, Tryz.ntmps87
    go_wp2_with (go_at_call 39; refine (cWithin _ _ _ _).mono ?_; rintro e w' ⟨rfl, rfl⟩)
    go_ret
    exact ⟨ret_bool R.out.symm, hW⟩

theorem rS (e d f t p : Int) : rideB ⟨e, d, f, t, p⟩ = (inB e 0 59 && (inB d 0 1 && (inB t 0 100000 && (inB f 0 (t - 1) && inB p 0 23)))) := by
  rw [Bool.eq_iff_iff]
  simp only [rideB, inB, Bool.and_eq_true, decide_eq_true_eq]; omega

set_option maxHeartbeats 1600000 in
theorem cUseS (u : RideV) (w : World) : Calls Tryz.prog 109 #[u.val] w fun e w' => e = .returned (.bool (rideB u)) ∧ Below w.heap.size w w' := by
  obtain ⟨e, d, f, t, p⟩ := u
  unfold RideV.val
  have hW := balloc w (.cells #[.int .i64 e, .int .i64 d, .int .i64 f, .int .i64 t, .int .i64 p] 98)
  have E := hide (rS e d f t p)
  cases h1 : inB e 0 59
  · go_enter Tryz.func109, Tryz.ntmps109
    go_wp2_with (go_at_call 61; refine (cIn _ _ _ _).mono ?_; rintro e w' ⟨rfl, rfl⟩)
    go_ret
    exact ⟨ret_bool (by rw [E.out, h1]; rfl), hW⟩
  cases h2 : inB d 0 1
  · go_enter Tryz.func109, Tryz.ntmps109
    go_wp2_with (go_at_call 61; refine (cIn _ _ _ _).mono ?_; rintro e w' ⟨rfl, rfl⟩)
    go_ret
    exact ⟨ret_bool (by rw [E.out, h1, h2]; rfl), hW⟩
  cases h3 : inB t 0 100000
  · go_enter Tryz.func109, Tryz.ntmps109
    go_wp2_with (go_at_call 61; refine (cIn _ _ _ _).mono ?_; rintro e w' ⟨rfl, rfl⟩)
    go_ret
    exact ⟨ret_bool (by rw [E.out, h1, h2, h3]; rfl), hW⟩
  have ht := inB_true h3
  obtain ⟨ht1, ht2⟩ := ht
  have hw : IntKind.i64.wrap (t - 1) = t - 1 := wrap_in _ (by omega) (by omega)
  cases h4 : inB f 0 (t - 1)
  · go_enter Tryz.func109, Tryz.ntmps109
    go_wp2_with (go_at_call 61; refine (cIn _ _ _ _).mono ?_; rintro e w' ⟨rfl, rfl⟩)
    go_ret
    exact ⟨ret_bool (by rw [E.out, h1, h2, h3, h4]; rfl), hW⟩
  go_enter Tryz.func109, Tryz.ntmps109
  go_wp2_with (go_at_call 61; refine (cIn _ _ _ _).mono ?_; rintro e w' ⟨rfl, rfl⟩)
  go_ret
  exact ⟨ret_bool (by rw [E.out, h1, h2, h3, h4]; rfl), hW⟩
end Go.Proofs.YtbghfihlpbcomaaGreat
