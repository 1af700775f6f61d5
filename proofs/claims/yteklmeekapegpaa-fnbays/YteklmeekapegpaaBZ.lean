/- Entering the first bay that serves. -/
import Derived.Test.YteklmeekapegpaaBY
namespace Go.Proofs.Yteklmeekapegpaa
open Go.RowKit Go.Conc

/-- Bay k is long enough and nobody stands there. -/
def Serves (zs : List Int) (occ : Nat → Option Int) (l : Int) (k : Nat) : Prop := l ≤ zs.getD k 0 ∧ occ k = none
/-- What is picked: the first that serves, who comes stands there then; else none, and nothing turned. -/
def Picked (zs : List Int) (cs : List Nat) (occ : Nat → Option Int) (l p : Int) (w : World) (e : Ending) (w' : World) : Prop :=
  (∃ k, k < zs.length ∧ Serves zs occ l k ∧ (∀ j, j < k → ¬ Serves zs occ l j) ∧ e = .returned (.int .i64 k) ∧ ∃ s r, w' = w.setChan (cs.getD k 0) 1 (bufOf (some p)) false s r false) ∨
  ((∀ j, j < zs.length → ¬ Serves zs occ l j) ∧ e = .returned (.int .i64 (-1)) ∧ w' = w)

set_option maxRecDepth 20000 in
set_option maxHeartbeats 1600000 in
theorem cEnterFirst (a : Option Addr) (ca : Nat) (zs : List Int) (base g : Nat) (cs : List Nat) (occ : Nat → Option Int) (l p : Int) (w : World) (hz : Ints w a zs) (hB : BaysAt w base g cs occ) (hlen : zs.length = cs.length) (hn : zs.length ≤ 12) :
    Calls Try.prog 48 #[.slice a zs.length ca, .slice (some ⟨g, 0, none⟩) zs.length zs.length, .int .i64 l, .int .i64 p] w (Picked zs cs occ l p w) := by
  replace hlen := hide hlen
  go_enter Try.func48, Try.ntmps48
  go_wp2
  go_loop [13] (fun i => ∃ k : Nat, k ≤ zs.length ∧ i = .int .i64 k ∧ Hid (∀ j, j < k → ¬ Serves zs occ l j)) (fun i => zs.length - (intOf i).toNat)
  case atStart => exact ⟨0, Nat.zero_le _, rfl, hide (fun j h => by omega)⟩
  case round =>
    obtain ⟨k, hk, rfl, hA⟩ := hrel
    by_cases hlt : k < zs.length
    · have hlt' : (k : Int) < (zs.length : Int) := by omega
      have hkc : k < cs.length := by have := hlen.out; omega
      rcases hz with h | ⟨b, off, rfl, hc⟩
      · simp [h] at hlt
      have q0 := hc k hlt
      have c0 := hB.cell hkc
      obtain ⟨s, r, hh⟩ := hB.ch k hkc
      have hSt := fun (h : ¬ Serves zs occ l k) => hide (show ∀ j, j < k + 1 → ¬ Serves zs occ l j from fun j hj => by
        by_cases e : j = k
        · subst e; exact h
        · exact hA.out j (by omega))
      have hYes : Hid (∀ s r, Serves zs occ l k → Picked zs cs occ l p w (.returned (.int .i64 k)) (w.setChan (cs.getD k 0) 1 #[.int .i64 p] false s r false)) := hide (fun s r h => .inl ⟨k, hlt, h, hA.out, rfl, s, r, rfl⟩)
      have hSv : Hid (Serves zs occ l k ↔ l ≤ zs.getD k 0 ∧ occ k = none) := Iff.rfl
      clear hc hA
      generalize zs.getD k 0 = y at *
      by_cases hy : l ≤ y
      · have CF := fun q V hq => cEnter_full (cs.getD k 0) s r p q V hq
        have CR := fun V hq => cEnter_room (cs.getD k 0) s r p V hq
        generalize cs.getD k 0 = c at *
        cases ho : occ k with
        | none =>
          rw [ho] at hh
          have hS := hYes.out (s + 1) r (hSv.out.2 ⟨hy, ho⟩)
          replace hS := hide hS
          clear hSt hYes hSv
          go_wp2_with fail
          refine (CR w hh).mono ?_
          rintro e w1 ⟨rfl, rfl⟩
          go_wp2
          go_ret
          exact hS.out
        | some q =>
          rw [ho] at hh
          have hS := hSt (fun h => by have := (hSv.out.1 h).2; rw [ho] at this; cases this)
          clear hSt hYes hSv
          go_wp2_with fail
          refine (CF q w hh).mono ?_
          rintro e w1 ⟨rfl, hw⟩
          subst hw
          go_wp2
          go_round
          case rel => exact ⟨k + 1, by omega, by go_num, hS⟩
          case measure => simp [intOf]; omega
      · have hS := hSt (fun h => hy (hSv.out.1 h).1)
        clear hSt hYes hSv
        go_wp2
        go_round
        case rel => exact ⟨k + 1, by omega, by go_num, hS⟩
        case measure => simp [intOf]; omega
    · obtain rfl : k = zs.length := by omega
      clear hz
      go_wp2
      go_ret
      exact .inr ⟨hA.out, rfl, rfl⟩
end Go.Proofs.Yteklmeekapegpaa
