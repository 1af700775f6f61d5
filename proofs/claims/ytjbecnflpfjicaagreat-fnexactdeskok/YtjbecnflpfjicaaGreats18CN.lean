/- The library's Grow, Concat, Sort and Compact at numbers, and noneTwice. -/
import Derived.Test.YtjbecnflpfjicaaGreats18RI
import Derived.Test.YtjbecnflpfjicaaGreats18M
import Derived.Test.YtjbecnflpfjicaaGreatShelfI
import Derived.Lib.AppendZerosOnto
import Derived.Lib.OwnBridge
import Derived.Lib.RowBridge
import Derived.Sort.OwnSortedInts
namespace Go.Proofs.YtjbecnflpfjicaaGreat.s18
open Go.RowKit Go.Lib Go.Sort
set_option maxRecDepth 100000 in
set_option maxHeartbeats 1600000 in
theorem cGrow (n : Nat) (w : World) (hn : n ≤ 1048576) :
    Calls Tryz.prog 84 #[.slice none 0 0, .int .i64 n] w fun e w' => ∃ v, e = .returned v ∧ w'.ownsRow w.heap.size 3 1 v 0 [] ∧ (n = 0 → v = .slice none 0 0) ∧ Below w.heap.size w w' := by
  obtain ⟨i0, hi, hz0, hz1, hz2⟩ := info_parts infoInts
  by_cases h0 : n = 0
  · subst h0
    go_enter Tryz.func84, Tryz.ntmps84
    go_wp2
    go_ret
    exact ⟨_, rfl, World.ownsRow_nil _ _ _ _, fun _ => rfl, Below.refl _ _⟩
  · have h0' : (0 : Int) < (n : Int) := by omega
    have hr : ∀ ty, Hid _ := fun ty => hide (Go.Lib.run_append_nil_zeros (P := Tryz.prog) w 29 3 ty 3 i0 (.int .i64 0) .i64 .i64 Tryz.underlying29 Tryz.underlying3 hi hz0 n (by omega) (by omega) (by omega) (by rw [hz2]; omega))
    go_enter Tryz.func84, Tryz.ntmps84
    go_wp2_with (at_builtin; refine Go.Lib.wpList_append_run _ rfl _ _ _ _ rfl _ _ rfl rfl _ _ (hr _).out ?_)
    go_ret
    have hcap : n ≤ grownCap w n 0 3 := grownCap_ge w n 0 3
    refine ⟨_, rfl, World.ownsRow_made w.drew _ (grownCap w n 0 3) (Nat.le_refl _) (grownCap_le_maxLen w n 0 3 (by unfold maxLen; omega)) ?_, fun h => absurd h h0, btrans (Below.refl _ w).drew (balloc w.drew _)⟩
    rw [Array.size_append, size_zeroCells, size_zeroCells]
    simp
    omega
theorem flat_take {rows : List (List Int)} {k : Nat} (hk : k < rows.length) : (rows.take (k + 1)).flatten = (rows.take k).flatten ++ rwA rows k := by
  rw [List.take_succ_eq_append_getElem hk, List.flatten_append]
  simp [rwA, List.getD, hk]
theorem flat_take_le {rows : List (List Int)} : ∀ k, k ≤ rows.length → (∀ i, i < rows.length → (rwA rows i).length ≤ 40) → (rows.take k).flatten.length ≤ 40 * k
  | 0, _, _ => by simp
  | k + 1, hk, h => by
    have := flat_take_le k (by omega) h
    rw [flat_take (by omega), List.length_append]
    have := h k (by omega)
    omega
theorem app_nil {v : Value} {w : World} {B : Nat} {xs : List Int} (h : w.ownsRow B 3 1 v xs.length (enc xs)) (a : Option Addr) (c : Nat) : (Builtin.append_ #[29, 29] 29 #[v, .slice a 0 c]).run Tryz.prog w = .ok v w := by
  obtain ⟨va, vc, rfl, _, hroom, _⟩ := RowI.form (.inl h)
  exact append0I va a xs.length vc c hroom w

set_option maxRecDepth 100000 in
set_option maxHeartbeats 3200000 in
theorem cConcat (a : Option Addr) (cap : Nat) (vs : List Value) (rows : List (List Int)) (w : World) (hR : RowsW w a vs rows) (h6 : rows.length ≤ 6) (h40 : ∀ i, i < rows.length → (rwA rows i).length ≤ 40) :
    Calls Tryz.prog 70 #[.slice a rows.length cap] w fun e w' => ∃ v, e = .returned v ∧ w'.ownsRow w.heap.size 3 1 v rows.flatten.length (enc rows.flatten) ∧ (rows.flatten = [] → v = .slice none 0 0) ∧ Below w.heap.size w w' := by
  have hvl := hide hR.len
  go_enter Tryz.func70, Tryz.ntmps70
  go_wp2
  go_loop [3, 5, 11] (fun s _ i => ∃ k : Nat, k ≤ rows.length ∧ i = .int .i64 k ∧ s = .int .i64 (rows.take k).flatten.length) (fun _ _ i => rows.length - (intOf i).toNat)
  case atStart => exact ⟨0, by omega, rfl, by simp⟩
  case round =>
    obtain ⟨k, hk, rfl, rfl⟩ := hrel
    have hle := flat_take_le k hk h40
    by_cases hlt : k < rows.length
    · rcases hR.cell with h | ⟨bb, off, rfl, hc⟩
      · simp [h] at hlt
      have q0 := hc k (by have := hvl.out; omega)
      obtain ⟨ai, ci, hv, -, -⟩ := hR.each k (by have := hvl.out; omega)
      rw [hv] at q0
      have hst := hide (show (((rows.take k).flatten.length : Nat) : Int) + (rwA rows k).length = ((rows.take (k + 1)).flatten.length : Nat) by rw [flat_take hlt, List.length_append]; omega)
      have hl4 := h40 k hlt
      clear hc hv
      generalize (rows.take k).flatten.length = S at *
      generalize (rwA rows k).length = L at *
      have hn0 : ¬ ((S : Int) + (L : Int) < 0) := by omega
      go_wp2
      go_round
      case rel => exact ⟨k + 1, by omega, by go_num, by rw [← hst.out]⟩
      case measure => simp [intOf]; omega
    · obtain rfl : k = rows.length := by omega
      rw [List.take_length]
      rw [List.take_length] at hle
      have CG := cGrow rows.flatten.length w (by omega)
      generalize hT : rows.flatten.length = T at *
      replace hT := hide hT
      go_wp2_with fail
      refine CG.mono ?_
      rintro e w1 ⟨v, rfl, hown0, hnil, hb0⟩
      clear CG
      go_wp2
      have hown1 : w1.ownsRow w.heap.size 3 1 v (rows.take 0).flatten.length (enc (rows.take 0).flatten) := by simpa using hown0
      have hnil1 : Hid (rows.flatten = [] → v = .slice none 0 0) := hide (fun h => hnil (by rw [← hT.out, h]; rfl))
      clear hown0 hnil
      go_loopw [6, 8, 27] (fun v _ i wr => ∃ k : Nat, k ≤ rows.length ∧ i = .int .i64 k ∧ wr.ownsRow w.heap.size 3 1 v (rows.take k).flatten.length (enc (rows.take k).flatten) ∧ Hid (rows.flatten = [] → v = .slice none 0 0) ∧ Below w.heap.size w wr) (fun _ _ i _ => rows.length - (intOf i).toNat)
      case atStart => exact ⟨0, by omega, rfl, hown1, hnil1, hb0⟩
      case round =>
        obtain ⟨k, hk, rfl, hown, hn, hb⟩ := hrel
        clear hown1 hnil1 hb0
        by_cases hlt : k < rows.length
        · rcases hR.cell with h | ⟨bb, off, rfl, hc⟩
          · simp [h] at hlt
          have q0 := ble hb (hc k (by have := hvl.out; omega))
          obtain ⟨ai, ci, hv, hI, -⟩ := hR.each k (by have := hvl.out; omega)
          rw [hv] at q0
          have hl4 := h40 k hlt
          have hle2 := flat_take_le k hk h40
          obtain ⟨v2, w2, hrun, hrow, hgrow, -⟩ := app_own hown ai ci (hI.below hb) (by omega) hb.size
          rw [← flat_take hlt] at hrow
          have hb2 : Below w.heap.size w w2 := hb.grown hgrow hb.size (own_from hown (Nat.le_refl _))
          have hn2 : Hid (rows.flatten = [] → v2 = .slice none 0 0) := hide (fun h => by
            have h0 : rwA rows k = [] := by
              have hm := rwA_mem hlt
              rw [List.flatten_eq_nil_iff] at h
              exact h _ hm
            rw [h0] at hrun
            have := app_nil hown ai ci
            have e9 := hrun.symm.trans this
            simp only [Result.ok.injEq] at e9
            rw [e9.1]; exact hn.out h)
          obtain ⟨va2, vc2, rfl⟩ := own_form hrow
          clear hc hv hI hown hn hb hgrow
          generalize (rwA rows k).length = L at *
          generalize hT2 : (rows.take (k + 1)).flatten.length = T2 at *
          replace hT2 := hide hT2
          go_wp2_with (at_builtin; refine Go.Lib.wpList_append_run _ rfl _ _ _ _ rfl _ _ rfl rfl _ _ hrun ?_)
          go_roundw
          case rel => exact ⟨k + 1, by omega, by go_num, by rw [hT2.out]; exact hrow, hn2, hb2⟩
          case measure => simp [intOf]; omega
        · obtain rfl : k = rows.length := by omega
          rw [List.take_length] at hown
          have hpost : ∃ v, Ending.returned u6 = .returned v ∧ wr.ownsRow w.heap.size 3 1 v rows.flatten.length (enc rows.flatten) ∧ (rows.flatten = [] → v = .slice none 0 0) ∧ Below w.heap.size w wr := ⟨_, rfl, hown, hn.out, hb⟩
          clear hown hn hb
          go_wp2
          go_ret
          exact hpost
end Go.Proofs.YtjbecnflpfjicaaGreat.s18
