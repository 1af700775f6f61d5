/- The program's PlantOk. -/
import Derived.Test.YtpgjllefhlanpaaCP
namespace Go.Proofs.Ytpgjllefhlanpaa
open Go.RowKit

set_option maxHeartbeats 400000 in
theorem cHasBlock (a b : Option Addr) (ca cb : Nat) (p : PlantV) (x : Int) (w : World) (h0 : 1 ≤ p.blocks) (h1 : p.blocks ≤ 24) :
    Calls Try.prog 44 #[plantVal a ca b cb p, .int .i64 x] w fun e w' => e = .returned (.bool (inB x 0 (p.blocks - 1))) ∧ Below w.heap.size w w' := by
  obtain ⟨U, B, R⟩ := p
  dsimp only at *
  unfold plantVal
  dsimp only
  have hb := balloc w (.cells #[.slice a U.length ca, .int .i64 B, .slice b R.length cb] 27)
  go_enter Try.func44, Try.ntmps44
  go_wp2_with fail
  refine (cWithin x 0 (B - 1) _).mono ?_
  rintro e w1 ⟨rfl, hw⟩
  subst w1
  go_wp2
  go_ret
  exact ⟨rfl, hb⟩
set_option maxHeartbeats 400000 in
theorem cHasRoute (a b : Option Addr) (ca cb : Nat) (p : PlantV) (x : Int) (w : World) (h1 : p.routes.length ≤ 1048576) :
    Calls Try.prog 36 #[plantVal a ca b cb p, .int .i64 x] w fun e w' => e = .returned (.bool (inB x 0 (p.routes.length - 1))) ∧ Below w.heap.size w w' := by
  obtain ⟨U, B, R⟩ := p
  dsimp only at *
  unfold plantVal
  dsimp only
  have hb := balloc w (.cells #[.slice a U.length ca, .int .i64 B, .slice b R.length cb] 27)
  go_enter Try.func36, Try.ntmps36
  go_wp2_with fail
  refine (cWithin x 0 (R.length - 1) _).mono ?_
  rintro e w1 ⟨rfl, hw⟩
  subst w1
  go_wp2
  go_ret
  exact ⟨rfl, hb⟩
set_option maxHeartbeats 400000 in
theorem cPosOk (x : Int) (w : World) : Calls Try.prog 26 #[.int .i64 x] w fun e w' => e = .returned (.bool (inB x 0 1)) ∧ w' = w := by
  go_enter Try.func26, Try.ntmps26
  go_wp2_with fail
  refine (cWithin x 0 1 _).mono ?_
  rintro e w1 ⟨rfl, hw⟩
  subst w1
  go_wp2
  go_ret
  exact ⟨rfl, rfl⟩

set_option maxHeartbeats 1600000 in
theorem cNeedsOk (a b : Option Addr) (ca cb : Nat) (p : PlantV) (an : Option Addr) (cn : Nat) (es : List NeedV) (w : World) (hN : Needs w an es) (hl : es.length ≤ 1048576) (hu : p.under.length ≤ 16) :
    Calls Try.prog 45 #[plantVal a ca b cb p, .slice an es.length cn] w fun e w' => e = .returned (.bool (needsGo p.under.length 0 es)) ∧ Below w.heap.size w w' := by
  obtain ⟨U, B, R⟩ := p
  dsimp only at *
  unfold plantVal
  dsimp only
  have hb0 := balloc w (.cells #[.slice a U.length ca, .int .i64 B, .slice b R.length cb] 27)
  have g0 : (w.alloc (.cells #[.slice a U.length ca, .int .i64 B, .slice b R.length cb] 27)).cell? ⟨w.heap.size, 0, none⟩ = some (.slice a U.length ca) := by simp [go_sem]
  generalize hr : needsGo U.length 0 es = res
  replace hr := hide hr
  go_enter Try.func45, Try.ntmps45
  go_wp2
  go_loopw [10, 5] (fun i nx wr => ∃ (k : Nat) (next : Int), k ≤ es.length ∧ i = .int .i64 k ∧ nx = .int .i64 next ∧ 0 ≤ next ∧ next ≤ 17 ∧ Hid (needsGo U.length next (es.drop k) = res) ∧ Below w.heap.size w wr ∧ wr.cell? ⟨w.heap.size, 0, none⟩ = some (.slice a U.length ca)) (fun i _ _ => es.length - (intOf i).toNat)
  case atStart => exact ⟨0, 0, Nat.zero_le _, rfl, rfl, by omega, by omega, hr, hb0, g0⟩
  case round =>
    obtain ⟨k, next, hk, rfl, rfl, hn0, hn1, hres, hb, g⟩ := hrel
    clear g0 hb0 hr
    by_cases hlt : k < es.length
    · rcases hN with h | ⟨nb, off, rfl, hc⟩
      · simp [h] at hlt
      obtain ⟨q0, q1⟩ := hc k hlt
      replace q0 := ble hb q0
      replace q1 := ble hb q1
      have e0 : es.getD k NeedV.zero = es[k] := by simp [List.getD, hlt]
      rw [e0] at q0 q1
      have hres2 := hide ((needsGo_drop hlt).symm.trans hres.out)
      generalize es[k] = E at *
      obtain ⟨pt, ps⟩ := E
      dsimp only at *
      have hb1 := btrans hb (balloc wr (.cells #[.int .i64 pt, .int .i64 ps] 74))
      have g1 := ble (balloc wr (.cells #[.int .i64 pt, .int .i64 ps] 74)) g
      clear hc e0 hres
      go_wp2_with fail
      refine (cWithin pt next (U.length - 1) _).mono ?_
      rintro e w1 ⟨rfl, hw⟩
      subst w1
      cases h1 : inB pt next (U.length - 1)
      · have hf : res = false := by rw [← hres2.out, h1]; rfl
        go_wp2
        go_ret
        exact ⟨ret_bool hf.symm, hb1⟩
      · go_wp2_with fail
        refine (cPosOk ps _).mono ?_
        rintro e w1 ⟨rfl, hw⟩
        subst w1
        cases h2 : inB ps 0 1
        · have hf : res = false := by rw [← hres2.out, h1, h2]; rfl
          go_wp2
          go_ret
          exact ⟨ret_bool hf.symm, hb1⟩
        · have hf := hide (show needsGo U.length (pt + 1) (es.drop (k + 1)) = res by rw [← hres2.out, h1, h2]; rfl)
          have hp := inB_true h1
          clear h1 h2 hres2 g hb
          go_wp2
          go_roundw
          case rel => exact ⟨k + 1, pt + 1, by omega, by go_num, by go_num, by omega, by omega, hf, hb1, g1⟩
          case measure => simp [intOf]; omega
    · obtain rfl : k = es.length := by omega
      have hf : res = true := by rw [← hres.out, List.drop_length]; rfl
      clear hN
      go_wp2
      go_ret
      exact ⟨ret_bool hf.symm, hb⟩
end Go.Proofs.Ytpgjllefhlanpaa
