/- Right patterns: both texts of 'are these days right' compute one function, and so both texts of PatternOk. -/
import Derived.Test.YtmchdclieejohaaB
namespace Go.Proofs.Ytmchdclieejohaa
open Go.RowKit

def goodAt (W F T : Int) (nm : Bool) (zs : List Int) (i : Nat) : Bool :=
  inB (zs.getD i 0) F T && ((i == 0 || decide (zs.getD (i - 1) 0 < zs.getD i 0)) && (wkB W (zs.getD i 0) == nm))
def goodTo (W F T : Int) (nm : Bool) (zs : List Int) (k : Nat) : Bool := (List.range k).all (goodAt W F T nm zs)
def dOk (W F T : Int) (nm : Bool) (zs : List Int) : Bool := decide (zs.length ≤ 20) && goodTo W F T nm zs zs.length

theorem goodTo_zero (W F T : Int) (nm : Bool) (zs : List Int) : goodTo W F T nm zs 0 = true := rfl
theorem goodTo_succ (W F T : Int) (nm : Bool) (zs : List Int) (k : Nat) (h : goodTo W F T nm zs k = true) (g : goodAt W F T nm zs k = true) : goodTo W F T nm zs (k + 1) = true := by
  simp only [goodTo, List.range_succ, List.all_append, List.all_cons, List.all_nil, Bool.and_true, Bool.and_eq_true]
  exact ⟨h, g⟩
theorem goodTo_bad (W F T : Int) (nm : Bool) (zs : List Int) (k : Nat) (hk : k < zs.length) (g : goodAt W F T nm zs k = false) : goodTo W F T nm zs zs.length = false := by
  cases h : goodTo W F T nm zs zs.length
  · rfl
  · simp only [goodTo, List.all_eq_true, List.mem_range] at h
    rw [h k hk] at g
    cases g
theorem dOk_bad (W F T : Int) (nm : Bool) (zs : List Int) (k : Nat) (hk : k < zs.length) (g : goodAt W F T nm zs k = false) : dOk W F T nm zs = false := by
  simp [dOk, goodTo_bad W F T nm zs k hk g]
theorem dOk_end (W F T : Int) (nm : Bool) (zs : List Int) (h : goodTo W F T nm zs zs.length = true) : dOk W F T nm zs = decide (zs.length ≤ 20) := by
  simp [dOk, h]
theorem bad_in {W F T : Int} {nm : Bool} {zs : List Int} {i : Nat} (h : inB (zs.getD i 0) F T = false) : goodAt W F T nm zs i = false := by simp only [goodAt, h, Bool.false_and]
theorem bad_ord {W F T : Int} {nm : Bool} {zs : List Int} {i : Nat} (h0 : 0 < i) (h : zs.getD i 0 ≤ zs.getD (i - 1) 0) : goodAt W F T nm zs i = false := by
  have e1 : (i == 0) = false := by simp; omega
  have e2 : decide (zs.getD (i - 1) 0 < zs.getD i 0) = false := by simp only [decide_eq_false_iff_not]; omega
  simp only [goodAt, e1, e2, Bool.or_false, Bool.false_and, Bool.and_false]
theorem bad_wk {W F T : Int} {nm : Bool} {zs : List Int} {i : Nat} (h : (wkB W (zs.getD i 0) == nm) = false) : goodAt W F T nm zs i = false := by
  simp only [goodAt, h, Bool.and_false]
theorem good_mk {W F T : Int} {nm : Bool} {zs : List Int} {i : Nat} (h1 : inB (zs.getD i 0) F T = true) (h2 : i = 0 ∨ zs.getD (i - 1) 0 < zs.getD i 0) (h3 : (wkB W (zs.getD i 0) == nm) = true) : goodAt W F T nm zs i = true := by
  simp only [goodAt, h1, h3, Bool.true_and, Bool.and_true, Bool.or_eq_true, decide_eq_true_eq, beq_iff_eq]
  exact h2

theorem bdraw {B : Nat} {a w : World} (h : Below B a w) (n : Nat) : Below B a (w.drewN n) := h.trans (Go.Joins.below_draws B w n)

set_option maxHeartbeats 1600000 in
theorem c49 (a : Option Addr) (cap : Nat) (zs : List Int) (W F T : Int) (u v : Value) (nm : Bool) (w : World) (hz : Ints w a zs) (hl : zs.length ≤ 1048576) :
    Calls Try.prog 49 #[.slice a zs.length cap, .agg #[.int .i64 W, .int .i64 F, .int .i64 T, u, v], .bool nm] w fun e w' => e = .returned (.bool (dOk W F T nm zs)) ∧ Below w.heap.size w w' := by
  have hW : ∀ o : Obj, Below w.heap.size w (w.alloc o) := fun o => (Below.refl _ _).alloc (Nat.le_refl _) _
  go_enter Try.func49, Try.ntmps49
  go_wp2
  go_loopw [7] (fun i wr => ∃ k : Nat, k ≤ zs.length ∧ goodTo W F T nm zs k = true ∧ i = .int .i64 k ∧ Below (w.heap.size + 1) (w.alloc (.cells #[.int .i64 W, .int .i64 F, .int .i64 T, u, v] 26)) wr) (fun i _ => zs.length - (intOf i).toNat)
  case atStart => exact ⟨0, Nat.zero_le _, rfl, rfl, Below.refl _ _⟩
  case round =>
    obtain ⟨k, hk, hgo, rfl, hb⟩ := hrel
    have fin : Below w.heap.size w wr := (hW _).trans (hb.mono (Nat.le_succ _))
    have b0 : wr.cell? ⟨w.heap.size, 0, none⟩ = some (.int .i64 W) := (hb.cell (Nat.lt_succ_self _)).trans (by simp)
    have b1 : wr.cell? ⟨w.heap.size, 1, none⟩ = some (.int .i64 F) := (hb.cell (Nat.lt_succ_self _)).trans (by simp)
    have b2 : wr.cell? ⟨w.heap.size, 2, none⟩ = some (.int .i64 T) := (hb.cell (Nat.lt_succ_self _)).trans (by simp)
    by_cases hlt : k < zs.length
    · rcases hz with hz | ⟨b, off, rfl, hc⟩
      · simp [hz] at hlt
      have hbs := cell_lt (hc k hlt)
      have hck : wr.cell? ⟨b, off + k, none⟩ = some (.int .i64 zs[k]) := ((fin.cell hbs).trans (hc k hlt)).trans (by simp [List.getD, hlt])
      have e0 : zs.getD k 0 = zs[k] := by simp [List.getD, hlt]
      have E0 : Hid (zs.getD k 0 = zs[k]) := e0
      clear e0 hW
      cases hin : inB zs[k] F T
      · have R := dOk_bad W F T nm zs k hlt (bad_in (by rw [E0.out]; exact hin))
        clear hb hc
        go_wp2
        go_quiet (first | (go_at_call 46; exact Calls.quiet_of_same (c46 _ _ _ _)) | (go_at_call 40; exact Calls.quiet_of_same (c40 _ _ _)))
        go_wp2
        go_ret
        exact ⟨ret_bool R.symm, bdraw fin _⟩
      · by_cases hk0 : k = 0
        · have hp : decide (0 < k) = false := by simp; omega
          have HK : Hid (k = 0) := hk0
          clear hk0
          cases hwk : wkB W zs[k] <;> cases nm
          · have R := goodTo_succ W F T false zs (k) hgo (good_mk (by rw [E0.out]; exact hin) (.inl HK.out) (by rw [E0.out, hwk]; rfl))
            have hb' := fun n => bdraw hb n
            clear hb hc
            go_wp2
            go_quiet (first | (go_at_call 46; exact Calls.quiet_of_same (c46 _ _ _ _)) | (go_at_call 40; exact Calls.quiet_of_same (c40 _ _ _)))
            go_wp2
            go_roundw
            case rel => exact ⟨k + 1, by omega, R, by go_num, hb' _⟩
            case measure => simp [intOf]; omega
          · have R := dOk_bad W F T true zs (k) hlt (bad_wk (by rw [E0.out, hwk]; rfl))
            clear hb hc
            go_wp2
            go_quiet (first | (go_at_call 46; exact Calls.quiet_of_same (c46 _ _ _ _)) | (go_at_call 40; exact Calls.quiet_of_same (c40 _ _ _)))
            go_wp2
            go_ret
            exact ⟨ret_bool R.symm, bdraw fin _⟩
          · have R := dOk_bad W F T false zs (k) hlt (bad_wk (by rw [E0.out, hwk]; rfl))
            clear hb hc
            go_wp2
            go_quiet (first | (go_at_call 46; exact Calls.quiet_of_same (c46 _ _ _ _)) | (go_at_call 40; exact Calls.quiet_of_same (c40 _ _ _)))
            go_wp2
            go_ret
            exact ⟨ret_bool R.symm, bdraw fin _⟩
          · have R := goodTo_succ W F T true zs (k) hgo (good_mk (by rw [E0.out]; exact hin) (.inl HK.out) (by rw [E0.out, hwk]; rfl))
            have hb' := fun n => bdraw hb n
            clear hb hc
            go_wp2
            go_quiet (first | (go_at_call 46; exact Calls.quiet_of_same (c46 _ _ _ _)) | (go_at_call 40; exact Calls.quiet_of_same (c40 _ _ _)))
            go_wp2
            go_roundw
            case rel => exact ⟨k + 1, by omega, R, by go_num, hb' _⟩
            case measure => simp [intOf]; omega
        obtain ⟨m, rfl⟩ : ∃ m, k = m + 1 := ⟨k - 1, by omega⟩
        clear hk0
        have hm : m < zs.length := by omega
        have hcm : wr.cell? ⟨b, off + m, none⟩ = some (.int .i64 zs[m]) := ((fin.cell hbs).trans (hc m hm)).trans (by simp [List.getD, hm])
        have e1 : zs.getD (m + 1 - 1) 0 = zs[m] := by simp [List.getD, hm]
        have E1 : Hid (zs.getD (m + 1 - 1) 0 = zs[m]) := e1
        clear e1
        have hp : decide ((0 : Int) < ((m + 1 : Nat) : Int)) = true := by simp
        by_cases hlo : zs[m] < zs[m + 1]
        · have hlo2 : decide (zs[m + 1] ≤ zs[m]) = false := by simp; omega
          have HLO : Hid (zs[m] < zs[m + 1]) := hlo
          clear hlo
          cases hwk : wkB W zs[m + 1] <;> cases nm
          · have R := goodTo_succ W F T false zs (m + 1) hgo (good_mk (by rw [E0.out]; exact hin) (.inr (by rw [E0.out, E1.out]; exact HLO.out)) (by rw [E0.out, hwk]; rfl))
            have hb' := fun n => bdraw hb n
            clear hb hc
            go_wp2
            go_quiet (first | (go_at_call 46; exact Calls.quiet_of_same (c46 _ _ _ _)) | (go_at_call 40; exact Calls.quiet_of_same (c40 _ _ _)))
            go_wp2
            go_roundw
            case rel => exact ⟨m + 1 + 1, by omega, R, by go_num, hb' _⟩
            case measure => simp [intOf]; omega
          · have R := dOk_bad W F T true zs (m + 1) hlt (bad_wk (by rw [E0.out, hwk]; rfl))
            clear hb hc
            go_wp2
            go_quiet (first | (go_at_call 46; exact Calls.quiet_of_same (c46 _ _ _ _)) | (go_at_call 40; exact Calls.quiet_of_same (c40 _ _ _)))
            go_wp2
            go_ret
            exact ⟨ret_bool R.symm, bdraw fin _⟩
          · have R := dOk_bad W F T false zs (m + 1) hlt (bad_wk (by rw [E0.out, hwk]; rfl))
            clear hb hc
            go_wp2
            go_quiet (first | (go_at_call 46; exact Calls.quiet_of_same (c46 _ _ _ _)) | (go_at_call 40; exact Calls.quiet_of_same (c40 _ _ _)))
            go_wp2
            go_ret
            exact ⟨ret_bool R.symm, bdraw fin _⟩
          · have R := goodTo_succ W F T true zs (m + 1) hgo (good_mk (by rw [E0.out]; exact hin) (.inr (by rw [E0.out, E1.out]; exact HLO.out)) (by rw [E0.out, hwk]; rfl))
            have hb' := fun n => bdraw hb n
            clear hb hc
            go_wp2
            go_quiet (first | (go_at_call 46; exact Calls.quiet_of_same (c46 _ _ _ _)) | (go_at_call 40; exact Calls.quiet_of_same (c40 _ _ _)))
            go_wp2
            go_roundw
            case rel => exact ⟨m + 1 + 1, by omega, R, by go_num, hb' _⟩
            case measure => simp [intOf]; omega
        · have R := dOk_bad W F T nm zs (m + 1) hlt (bad_ord (by omega) (by rw [E0.out, E1.out]; omega))
          clear hb hc
          go_wp2
          go_quiet (first | (go_at_call 46; exact Calls.quiet_of_same (c46 _ _ _ _)) | (go_at_call 40; exact Calls.quiet_of_same (c40 _ _ _)))
          go_wp2
          go_ret
          exact ⟨ret_bool R.symm, bdraw fin _⟩
    · have hkk : k = zs.length := by omega
      subst hkk
      have R := dOk_end W F T nm zs hgo
      clear hb hz hW
      go_wp2
      go_ret
      exact ⟨ret_bool (by rw [R]; exact decide_eq_decide.2 (by omega)), fin⟩
end Go.Proofs.Ytmchdclieejohaa
