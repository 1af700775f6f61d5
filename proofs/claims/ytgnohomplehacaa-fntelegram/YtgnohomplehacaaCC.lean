/- The library's Concat and Clone at bytes. -/
import Derived.Test.YtgnohomplehacaaAB
namespace Go.Proofs.Ytgnohomplehacaa
open Go.RowKit
def rwA (rows : List (List Int)) (i : Nat) : List Int := rows.getD i []
def ByV (w : World) (v : Value) (xs : List Int) : Prop := ∃ a c, v = .slice a xs.length c ∧ Bys w a xs ∧ xs.length ≤ c
theorem ByV.below {w w' : World} {v : Value} {xs : List Int} (h : ByV w v xs) (hb : Below w.heap.size w w') : ByV w' v xs := by
  obtain ⟨a, c, h1, h2, h3⟩ := h
  exact ⟨a, c, h1, h2.below hb, h3⟩
theorem ByV.own {w : World} {B n : Nat} {v : Value} {xs : List Int} (hn : xs.length = n) (h : w.ownsRow B 5 1 v n (enc8 xs)) : ByV w v xs := by
  subst hn
  obtain ⟨a, c, rfl, h1, _⟩ := own_room h
  exact ⟨a, c, rfl, Bys.own h rfl, h1⟩
/-- The cells behind a slice's address hold rows of bytes. -/
structure RowsB (w : World) (a : Option Addr) (vs : List Value) (xss : List (List Int)) : Prop where
  len : vs.length = xss.length
  cell : xss = [] ∨ ∃ b off, a = some ⟨b, off, none⟩ ∧ ∀ i, (hi : i < vs.length) → w.cell? ⟨b, off + i, none⟩ = some vs[i]
  each : ∀ i, (hi : i < vs.length) → ByV w vs[i] (rwA xss i)
theorem flat_take {rows : List (List Int)} {k : Nat} (hk : k < rows.length) : (rows.take (k + 1)).flatten = (rows.take k).flatten ++ rwA rows k := by
  rw [List.take_succ_eq_append_getElem hk, List.flatten_append]
  simp [rwA, List.getD, hk]
theorem flat_take_le {rows : List (List Int)} : ∀ k, k ≤ rows.length → (∀ i, i < rows.length → (rwA rows i).length ≤ 200) → (rows.take k).flatten.length ≤ 200 * k
  | 0, _, _ => by simp
  | k + 1, hk, h => by
    have := flat_take_le k (by omega) h
    rw [flat_take (by omega), List.length_append]
    have := h k (by omega)
    omega
set_option maxRecDepth 100000 in
set_option maxHeartbeats 3200000 in
theorem cConcat (a : Option Addr) (cap : Nat) (vs : List Value) (rows : List (List Int)) (w : World) (hR : RowsB w a vs rows) (h6 : rows.length ≤ 6) (h200 : ∀ i, i < rows.length → (rwA rows i).length ≤ 200) :
    Calls Try.prog 48 #[.slice a rows.length cap] w fun e w' => ∃ v, e = .returned v ∧ w'.ownsRow w.heap.size 5 1 v rows.flatten.length (enc8 rows.flatten) ∧ Below w.heap.size w w' := by
  have hvl := hide hR.len
  go_enter Try.func48, Try.ntmps48
  go_wp2
  go_loop [3, 5, 11] (fun s _ i => ∃ k : Nat, k ≤ rows.length ∧ i = .int .i64 k ∧ s = .int .i64 (rows.take k).flatten.length) (fun _ _ i => rows.length - (intOf i).toNat)
  case atStart => exact ⟨0, by omega, rfl, by simp⟩
  case round =>
    obtain ⟨k, hk, rfl, rfl⟩ := hrel
    have hle := flat_take_le k hk h200
    by_cases hlt : k < rows.length
    · rcases hR.cell with h | ⟨bb, off, rfl, hc⟩
      · simp [h] at hlt
      have q0 := hc k (by have := hvl.out; omega)
      obtain ⟨ai, ci, hv, -, -⟩ := hR.each k (by have := hvl.out; omega)
      rw [hv] at q0
      have hst := hide (show (((rows.take k).flatten.length : Nat) : Int) + (rwA rows k).length = ((rows.take (k + 1)).flatten.length : Nat) by rw [flat_take hlt, List.length_append]; omega)
      have hl4 := h200 k hlt
      clear hc hv
      generalize (rows.take k).flatten.length = S at *
      generalize (rwA rows k).length = L at *
      have hn0 : ¬ ((S : Int) + (L : Int) < 0) := by omega
      go_wp2
      go_round
      case rel => exact ⟨k + 1, by omega, by go_num, by rw [← hst.out]⟩
      case measure => simp [intOf]; omega
    · obtain rfl : k = rows.length := by omega
      rw [List.take_length]
      rw [List.take_length] at hle
      have CG := cGrow rows.flatten.length w (by omega)
      generalize hT : rows.flatten.length = T at *
      replace hT := hide hT
      go_wp2_with fail
      refine CG.mono ?_
      rintro e w1 ⟨v, rfl, hown0, hb0⟩
      clear CG
      go_wp2
      have hown1 : w1.ownsRow w.heap.size 5 1 v (rows.take 0).flatten.length (enc8 (rows.take 0).flatten) := by simpa using hown0
      clear hown0
      go_loopw [6, 8, 27] (fun v _ i wr => ∃ k : Nat, k ≤ rows.length ∧ i = .int .i64 k ∧ wr.ownsRow w.heap.size 5 1 v (rows.take k).flatten.length (enc8 (rows.take k).flatten) ∧ Below w.heap.size w wr) (fun _ _ i _ => rows.length - (intOf i).toNat)
      case atStart => exact ⟨0, by omega, rfl, hown1, hb0⟩
      case round =>
        obtain ⟨k, hk, rfl, hown, hb⟩ := hrel
        clear hown1 hb0
        by_cases hlt : k < rows.length
        · rcases hR.cell with h | ⟨bb, off, rfl, hc⟩
          · simp [h] at hlt
          have q0 := ble hb (hc k (by have := hvl.out; omega))
          obtain ⟨ai, ci, hv, hI, -⟩ := hR.each k (by have := hvl.out; omega)
          rw [hv] at q0
          have hl4 := h200 k hlt
          have hle2 := flat_take_le k hk h200
          obtain ⟨v2, w2, hrun, hrow, hgrow, -⟩ := app_by rfl hown ai ci (hI.below hb) (by omega) hb.size
          rw [← List.length_append, ← flat_take hlt] at hrow
          have hb2 : Below w.heap.size w w2 := hb.grown hgrow hb.size (own_from hown (Nat.le_refl _))
          obtain ⟨va2, vc2, rfl⟩ := own_form hrow
          clear hc hv hI hown hb hgrow
          generalize (rwA rows k).length = L at *
          generalize hT2 : (rows.take (k + 1)).flatten.length = T2 at *
          replace hT2 := hide hT2
          go_wp2_with (at_builtin; refine Go.Lib.wpList_append_run _ rfl _ _ _ _ rfl _ _ rfl rfl _ _ hrun ?_)
          go_roundw
          case rel => exact ⟨k + 1, by omega, by go_num, by rw [hT2.out]; exact hrow, hb2⟩
          case measure => simp [intOf]; omega
        · obtain rfl : k = rows.length := by omega
          rw [List.take_length] at hown
          have hpost : ∃ v, Ending.returned u6 = .returned v ∧ wr.ownsRow w.heap.size 5 1 v rows.flatten.length (enc8 rows.flatten) ∧ Below w.heap.size w wr := ⟨_, rfl, hown, hb⟩
          clear hown hb
          go_wp2
          go_ret
          exact hpost
set_option maxRecDepth 100000 in
set_option maxHeartbeats 1600000 in
theorem cClone (b off cap : Nat) (xs : List Int) (w : World) (hx : Bys w (some ⟨b, off, none⟩) xs) (hl : xs.length ≤ 1048576) :
    Calls Try.prog 73 #[.slice (some ⟨b, off, none⟩) xs.length cap] w fun e w' => ∃ v, e = .returned v ∧ w'.ownsRow w.heap.size 5 1 v xs.length (enc8 xs) ∧ Below w.heap.size w w' := by
  have hb := balloc w (.cells #[] 5)
  have ho : (w.alloc (.cells #[] 5)).ownsRow w.heap.size 5 1 (.slice (some ⟨w.heap.size, 0, none⟩) 0 0) 0 (enc8 []) := World.ownsRow_made w _ 0 (Nat.le_refl _) (by unfold maxLen; omega) (by simp)
  obtain ⟨v2, w2, hrun, hrow, hgrow, -⟩ := app_by (xs := []) (n := 0) rfl ho (some ⟨b, off, none⟩) cap (hx.below hb) (by omega) hb.size
  have hb2 : Below w.heap.size w w2 := hb.grown hgrow hb.size (own_from ho (Nat.le_refl _))
  rw [Nat.zero_add, List.nil_append] at hrow
  have hq : ∀ w, (binOp .eql 22 (.slice (some ⟨b, off, none⟩) xs.length cap) (.slice none 0 0)).run Try.prog w = .ok (.bool false) w := fun w => Go.Lib.run_eql_slice_nil w _ _ (some ⟨b, off, none⟩) xs.length cap 0 0 Try.underlying22
  clear ho hgrow hb hx
  go_enter Try.func73, Try.ntmps73
  go_wp2_with (at_builtin; refine Go.Lib.wpList_append_run _ rfl _ _ _ _ rfl _ _ rfl rfl _ _ hrun ?_)
  go_ret
  exact ⟨_, rfl, hrow, hb2⟩
end Go.Proofs.Ytgnohomplehacaa
