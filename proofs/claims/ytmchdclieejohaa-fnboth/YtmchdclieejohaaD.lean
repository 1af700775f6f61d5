/- The program's own 'are these days right' and both texts of PatternOk. -/
import Derived.Test.YtmchdclieejohaaC
namespace Go.Proofs.Ytmchdclieejohaa
open Go.RowKit

theorem inB_true {x lo hi : Int} (h : inB x lo hi = true) : lo ≤ x ∧ x ≤ hi := by simpa [inB] using h
theorem inB_false {x lo hi : Int} (h : inB x lo hi = false) : x < lo ∨ (lo ≤ x ∧ hi < x) := by
  simp [inB] at h; by_cases h1 : lo ≤ x
  · exact .inr ⟨h1, h h1⟩
  · exact .inl (by omega)
theorem hide {p : Prop} (h : p) : Hid p := h
theorem dOk_long (W F T : Int) (nm : Bool) (zs : List Int) (h : 20 < zs.length) : dOk W F T nm zs = false := by
  have : decide (zs.length ≤ 20) = false := by simp; omega
  simp only [dOk, this, Bool.false_and]

set_option maxHeartbeats 1600000 in
theorem c45 (a : Option Addr) (cap : Nat) (zs : List Int) (W F T : Int) (u v : Value) (nm : Bool) (w : World) (hz : Ints w a zs) (hl : zs.length ≤ 1048576) :
    Calls Try.prog 45 #[.agg #[.int .i64 W, .int .i64 F, .int .i64 T, u, v], .slice a zs.length cap, .bool nm] w fun e w' => e = .returned (.bool (dOk W F T nm zs)) ∧ Below w.heap.size w w' := by
  have hW : ∀ o : Obj, Below w.heap.size w (w.alloc o) := fun o => (Below.refl _ _).alloc (Nat.le_refl _) _
  by_cases h20 : 20 < zs.length
  · have R := hide <| dOk_long W F T nm zs h20
    go_enter Try.func45, Try.ntmps45
    go_wp2
    go_ret
    exact ⟨ret_bool R.out.symm, hW _⟩
  go_enter Try.func45, Try.ntmps45
  go_wp2
  go_loop [7, 8, 14] (fun i d k => ∃ k' : Nat, k' ≤ zs.length ∧ goodTo W F T nm zs k' = true ∧ k = .int .i64 k') (fun _ _ k => zs.length - (intOf k).toNat)
  case atStart => exact ⟨0, Nat.zero_le _, rfl, rfl⟩
  case round =>
    obtain ⟨k, hk, hgo, rfl⟩ := hrel
    by_cases hlt : k < zs.length
    · rcases hz with hz | ⟨b, off, rfl, hc⟩
      · simp [hz] at hlt
      have hbs := cell_lt (hc k hlt)
      have hck : w.cell? ⟨b, off + k, none⟩ = some (.int .i64 zs[k]) := (hc k hlt).trans (by simp [List.getD, hlt])
      have e0 : zs.getD k 0 = zs[k] := by simp [List.getD, hlt]
      have E0 : Hid (zs.getD k 0 = zs[k]) := e0
      clear e0
      cases hin : inB zs[k] F T
      · have R := hide <| dOk_bad W F T nm zs k hlt (bad_in (by rw [E0.out]; exact hin))
        rcases inB_false hin with h1 | ⟨h1, h2⟩
        · have g1 : decide (zs[k] < F) = true := by simpa using h1
          clear hc h1 hin
          go_wp2
          go_ret
          exact ⟨ret_bool R.out.symm, hW _⟩
        · have g1 : decide (zs[k] < F) = false := by simpa using h1
          have g2 : decide (T < zs[k]) = true := by simpa using h2
          clear hc h1 h2 hin
          go_wp2
          go_ret
          exact ⟨ret_bool R.out.symm, hW _⟩
      · have g := inB_true hin
        have g1 : decide (zs[k] < F) = false := by simpa using g.1
        have g2 : decide (T < zs[k]) = false := by simpa using g.2
        clear g
        cases hwk : wkB W zs[k] <;> cases nm
        · have hgood := fun h => good_mk (W := W) (F := F) (T := T) (nm := false) (zs := zs) (i := k) (by rw [E0.out]; exact hin) h (by rw [E0.out, hwk]; rfl)
          by_cases hk0 : k = 0
          · have R := goodTo_succ W F T false zs k hgo (hgood (.inl hk0))
            have hp : decide (0 < k) = false := by simp; omega
            clear hc hin hgood hk0
            go_wp2_with (go_at_call 36; refine (c36 _ _ _).mono ?_; rintro e w' ⟨rfl, rfl⟩)
            go_round
            case rel => exact ⟨k + 1, by omega, R, by go_num⟩
            case measure => simp [intOf]; omega
          · obtain ⟨m, rfl⟩ : ∃ m, k = m + 1 := ⟨k - 1, by omega⟩
            have hm : m < zs.length := by omega
            have hcm : w.cell? ⟨b, off + m, none⟩ = some (.int .i64 zs[m]) := (hc m hm).trans (by simp [List.getD, hm])
            have e1 : zs.getD (m + 1 - 1) 0 = zs[m] := by simp [List.getD, hm]
            by_cases hlo : zs[m] < zs[m + 1]
            · have R := goodTo_succ W F T false zs (m + 1) hgo (hgood (.inr (by rw [E0.out, e1]; exact hlo)))
              have hlo2 : decide (zs[m + 1] ≤ zs[m]) = false := by simp; omega
              clear hc hin hgood hk0 hlo e1
              go_wp2_with (go_at_call 36; refine (c36 _ _ _).mono ?_; rintro e w' ⟨rfl, rfl⟩)
              go_round
              case rel => exact ⟨m + 1 + 1, by omega, R, by go_num⟩
              case measure => simp [intOf]; omega
            · have R := hide <| dOk_bad W F T false zs (m + 1) hlt (bad_ord (by omega) (by rw [E0.out, e1]; omega))
              have hlo2 : decide (zs[m + 1] ≤ zs[m]) = true := by simp; omega
              clear hc hin hgood hk0 hlo e1
              go_wp2_with (go_at_call 36; refine (c36 _ _ _).mono ?_; rintro e w' ⟨rfl, rfl⟩)
              go_ret
              exact ⟨ret_bool R.out.symm, hW _⟩
        · have R := hide <| dOk_bad W F T true zs k hlt (bad_wk (by rw [E0.out, hwk]; rfl))
          clear hc hin
          go_wp2_with (go_at_call 36; refine (c36 _ _ _).mono ?_; rintro e w' ⟨rfl, rfl⟩)
          go_ret
          exact ⟨ret_bool R.out.symm, hW _⟩
        · have R := hide <| dOk_bad W F T false zs k hlt (bad_wk (by rw [E0.out, hwk]; rfl))
          clear hc hin
          go_wp2_with (go_at_call 36; refine (c36 _ _ _).mono ?_; rintro e w' ⟨rfl, rfl⟩)
          go_ret
          exact ⟨ret_bool R.out.symm, hW _⟩
        · have hgood := fun h => good_mk (W := W) (F := F) (T := T) (nm := true) (zs := zs) (i := k) (by rw [E0.out]; exact hin) h (by rw [E0.out, hwk]; rfl)
          by_cases hk0 : k = 0
          · have R := goodTo_succ W F T true zs k hgo (hgood (.inl hk0))
            have hp : decide (0 < k) = false := by simp; omega
            clear hc hin hgood hk0
            go_wp2_with (go_at_call 36; refine (c36 _ _ _).mono ?_; rintro e w' ⟨rfl, rfl⟩)
            go_round
            case rel => exact ⟨k + 1, by omega, R, by go_num⟩
            case measure => simp [intOf]; omega
          · obtain ⟨m, rfl⟩ : ∃ m, k = m + 1 := ⟨k - 1, by omega⟩
            have hm : m < zs.length := by omega
            have hcm : w.cell? ⟨b, off + m, none⟩ = some (.int .i64 zs[m]) := (hc m hm).trans (by simp [List.getD, hm])
            have e1 : zs.getD (m + 1 - 1) 0 = zs[m] := by simp [List.getD, hm]
            by_cases hlo : zs[m] < zs[m + 1]
            · have R := goodTo_succ W F T true zs (m + 1) hgo (hgood (.inr (by rw [E0.out, e1]; exact hlo)))
              have hlo2 : decide (zs[m + 1] ≤ zs[m]) = false := by simp; omega
              clear hc hin hgood hk0 hlo e1
              go_wp2_with (go_at_call 36; refine (c36 _ _ _).mono ?_; rintro e w' ⟨rfl, rfl⟩)
              go_round
              case rel => exact ⟨m + 1 + 1, by omega, R, by go_num⟩
              case measure => simp [intOf]; omega
            · have R := hide <| dOk_bad W F T true zs (m + 1) hlt (bad_ord (by omega) (by rw [E0.out, e1]; omega))
              have hlo2 : decide (zs[m + 1] ≤ zs[m]) = true := by simp; omega
              clear hc hin hgood hk0 hlo e1
              go_wp2_with (go_at_call 36; refine (c36 _ _ _).mono ?_; rintro e w' ⟨rfl, rfl⟩)
              go_ret
              exact ⟨ret_bool R.out.symm, hW _⟩
    · have hkk : k = zs.length := by omega
      subst hkk
      have R := hide <| dOk_end W F T nm zs hgo
      clear hz
      go_wp2
      go_ret
      exact ⟨ret_bool (by rw [R.out]; simp; omega), hW _⟩
end Go.Proofs.Ytmchdclieejohaa
