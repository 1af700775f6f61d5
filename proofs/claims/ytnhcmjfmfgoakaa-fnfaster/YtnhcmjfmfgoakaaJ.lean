/- The times at the borders, and of the whole run. -/
import Derived.Test.YtnhcmjfmfgoakaaI
namespace Go.Proofs.Ytnhcmjfmfgoakaa
open Go.RowKit

/-- The time at border k, by the squares. -/
def pas (sq : List Int) : Nat → Int
  | 0 => 0
  | k + 1 => pas sq k + cellT (sq.getD k 0) (sq.getD (k + 1) 0)
theorem pas_in (sq : List Int) : ∀ k : Nat, -(k : Int) ≤ pas sq k ∧ pas sq k ≤ 500 * (k : Int)
  | 0 => by simp [pas]
  | k + 1 => by
    have h := pas_in sq k
    have g := cellT_le (sq.getD k 0) (sq.getD (k + 1) 0)
    unfold pas
    omega
def passL (sq : List Int) : List Int := (List.range sq.length).map (pas sq)
def runT (sq : List Int) : Int := if sq.length = 0 then -1 else pas sq (sq.length - 1)
theorem passL_len (sq : List Int) : (passL sq).length = sq.length := by simp [passL]
theorem passL_get (sq : List Int) {k : Nat} (h : k < sq.length) : (passL sq).getD k 0 = pas sq k := by simp [passL, List.getD, h]
theorem runT_in (sq : List Int) (h : sq.length ≤ 201) : -201 ≤ runT sq ∧ runT sq ≤ 100500 := by
  unfold runT
  split
  · omega
  · have := pas_in sq (sq.length - 1)
    omega
theorem sqs_len (m : MotorV) (zs : List Int) : (sqs m zs).length ≤ 201 := by
  cases hm : motorB m
  · rw [sqs_no (.inl hm)]; simp
  cases hg : courseB zs
  · rw [sqs_no (.inr hg)]; simp
  have := (courseB_parts hg).1.2
  rw [sqs_yes hm hg]
  simp; omega

set_option maxRecDepth 20000 in
set_option maxHeartbeats 1600000 in
theorem c36 (a : Option Addr) (cap : Nat) (m : MotorV) (zs : List Int) (w : World) (hz : Ints w a zs) (hl : zs.length ≤ 1048576) :
    Calls Try.prog 36 #[m.val, .slice a zs.length cap] w fun e w' => e = .returned (.int .i64 (runT (sqs m zs))) ∧ Below w.heap.size w w' := by
  have C := c19 a cap m zs
  have hL := sqs_len m zs
  obtain ⟨u, d, t⟩ := m
  unfold MotorV.val at *
  generalize sqs ⟨u, d, t⟩ zs = sq at *
  have hR0 : Hid (sq.length = 0 → runT sq = -1) := by show _ → _; intro h; simp [runT, h]
  have hR1 : Hid (sq.length ≠ 0 → runT sq = pas sq (sq.length - 1)) := by show _ → _; intro h; simp [runT, h]
  have hst : ∀ k, Hid (pas sq (k + 1) = pas sq k + cellT (sq.getD k 0) (sq.getD (k + 1) 0)) := fun _ => rfl
  have h0 : Hid (pas sq 0 = 0) := rfl
  have hin := pas_in sq
  have hct := fun k => cellT_le (sq.getD k 0) (sq.getD (k + 1) 0)
  go_enter Try.func36, Try.ntmps36
  go_wp2_with fail
  refine (C _ (hz.below (balloc _ _)) hl).mono ?_
  rintro e w1 ⟨v, rfl, ho, hb⟩
  obtain ⟨ao, cp, rfl⟩ := own_form ho
  have HB := btrans (balloc _ _) hb
  have hI := ints_own ho rfl
  clear hb ho C
  by_cases hs : sq.length = 0
  · have hs' : (sq.length : Int) = 0 := by omega
    have R := hide (hR0.out hs)
    clear hs
    go_wp2
    go_ret
    exact ⟨ret_int R.out.symm, HB⟩
  · have R := hide (hR1.out hs)
    have hs' : 0 < (sq.length : Int) := by omega
    generalize pas sq = P at *
    go_wp2
    go_loopw [6, 7] (fun s i wr => ∃ k : Nat, k < sq.length ∧ i = .int .i64 ((k : Int) + 1) ∧ s = .int .i64 (P k) ∧ Ints wr ao sq ∧ Below w.heap.size w wr) (fun _ i _ => sq.length + 1 - (intOf i).toNat)
    case atStart => exact ⟨0, by omega, rfl, by rw [h0.out], hI, HB⟩
    case round =>
      clear hI HB
      obtain ⟨k, hk, rfl, rfl, hI, HB⟩ := hrel
      by_cases hlt : k + 1 < sq.length
      · have hJ := hI
        rcases hI with hI | ⟨b, o, rfl, hc⟩
        · simp [hI] at hlt
        have k1 := hc k hk
        have k2 := hc (k + 1) hlt
        have hp := hin k
        have hcc := hct k
        have hs2 := hst k
        have hlt' : (k : Int) + 1 < (sq.length : Int) := by omega
        have hwk : IntKind.i64.wrap (k : Int) = k := wrap_in _ (by omega) (by omega)
        have hk0 : (k : Int) < (sq.length : Int) := by omega
        have hk00 : (0 : Int) ≤ (k : Int) + 1 := by omega
        have hwk1 : IntKind.i64.wrap ((k : Int) + 1) = (k : Int) + 1 := wrap_in _ (by omega) (by omega)
        clear hc hin hct hst
        generalize sq.getD k 0 = A at *
        generalize sq.getD (k + 1) 0 = B at *
        generalize hPk : P k = PK at *
        have ew : IntKind.i64.wrap (PK + cellT A B) = PK + cellT A B := wrap_in _ (by omega) (by omega)
        go_wp2
        go_quiet (first | (go_at_call 34; exact Calls.quiet_of_same (c34 _ _ _)))
        go_wp2
        go_roundw
        case rel => exact ⟨k + 1, hlt, by go_num, by rw [hs2.out], hJ.below (bdraw (Below.refl _ _) _), bdraw HB _⟩
        case measure => simp [intOf]; omega
      · obtain rfl : k = sq.length - 1 := by omega
        have e1 : ((sq.length - 1 : Nat) : Int) + 1 = sq.length := by omega
        rw [e1]
        clear hct hst
        go_wp2
        go_ret
        exact ⟨ret_int R.out.symm, HB⟩
end Go.Proofs.Ytnhcmjfmfgoakaa
