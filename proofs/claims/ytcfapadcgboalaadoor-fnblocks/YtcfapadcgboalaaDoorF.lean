/- The program's list of signals. -/
import Derived.Test.YtcfapadcgboalaaDoorD
import Derived.Deep.RegionWith
namespace Go.Proofs.YtcfapadcgboalaaDoor
open Go.RowKit

theorem infoAsp : (Tryd.prog.info? 49).map (fun i => (i.zero, i.size, i.bytes)) = some (some (.int .i64 0), 1, 8) := by kernel_rfl
/-- The list of signals when the last i of n blocks and the one beyond are told. -/
def sigRow (f : Nat → Int) (n i : Nat) : List Value := (List.range (n + 1)).map fun j => Value.int .i64 (if n - i ≤ j then f j else 0)
theorem sigRow_len (f : Nat → Int) (n i : Nat) : (sigRow f n i).length = n + 1 := by simp [sigRow]
theorem sigRow_get (f : Nat → Int) (n i j : Nat) (hj : j ≤ n) : (sigRow f n i)[j]? = some (Value.int .i64 (if n - i ≤ j then f j else 0)) := by
  have h : j < n + 1 := by omega
  simp [sigRow, h]
theorem sigRow_set (f : Nat → Int) (n i : Nat) (h : i < n) : (sigRow f n i).set (n - 1 - i) (.int .i64 (f (n - 1 - i))) = sigRow f n (i + 1) := by
  apply List.ext_getElem?
  intro j
  rw [List.getElem?_set]
  by_cases hj : j < n + 1
  · rw [sigRow_get _ _ _ _ (by omega), sigRow_get _ _ _ _ (by omega)]
    by_cases e : n - 1 - i = j
    · subst e
      rw [if_pos rfl, if_pos (by rw [sigRow_len]; omega), if_pos (by omega)]
    · rw [if_neg e]
      by_cases g : n - i ≤ j
      · rw [if_pos g, if_pos (by omega)]
      · rw [if_neg g, if_neg (by omega)]
  · have e1 : (sigRow f n i)[j]? = none := List.getElem?_eq_none (by rw [sigRow_len]; omega)
    have e2 : (sigRow f n (i + 1))[j]? = none := List.getElem?_eq_none (by rw [sigRow_len]; omega)
    rw [e1, e2, sigRow_len, if_neg (by omega)]
theorem sigRow_zero (f : Nat → Int) (n : Nat) : (List.replicate (n + 1) (Value.int .i64 0)).set n (.int .i64 (f n)) = sigRow f n 0 := by
  apply List.ext_getElem?
  intro j
  rw [List.getElem?_set]
  by_cases hj : j < n + 1
  · rw [sigRow_get _ _ _ _ (by omega)]
    by_cases e : n = j
    · subst e; simp
    · rw [if_neg e, if_neg (by omega)]; simp [hj]
  · have e2 : (sigRow f n 0)[j]? = none := List.getElem?_eq_none (by rw [sigRow_len]; omega)
    rw [e2, if_neg (by omega)]; simp [hj]

theorem sig_start (f : Nat → Int) (n : Nat) (y : Int) (E1 : f n = y) {w w1 : World} (hown : w1.ownsRow w.heap.size 49 1 (.slice (some ⟨w.heap.size, 0, none⟩) (n + 1) (n + 1)) (n + 1) (madeCells (Value.int .i64 0).cells ((n + 1) * 1)).toList) (hgrow : w.grownBy w1 none) :
    w1.frozen? ⟨w.heap.size, n, none⟩ = false ∧ w1.cell? ⟨w.heap.size, n, none⟩ = some (.int .i64 0) ∧
    (w1.setCell ⟨w.heap.size, n, none⟩ (.int .i64 y)).ownsRow w.heap.size 49 1 (.slice (some ⟨w.heap.size, 0, none⟩) (n + 1) (n + 1)) (n + 1) (sigRow f n 0) ∧
    Below w.heap.size w (w1.setCell ⟨w.heap.size, n, none⟩ (.int .i64 y)) := by
  have hown1 : w1.ownsRow w.heap.size 49 1 (.slice (some ⟨w.heap.size, 0, none⟩) (n + 1) (n + 1)) (n + 1) (List.replicate (n + 1) (Value.int .i64 0)) := by
    simpa [toList_madeCells_one, Value.cells] using hown
  have hbel : Below w.heap.size w w1 := (Below.refl _ _).grown hgrow (Nat.le_refl _) (fun k hk => by cases hk)
  obtain ⟨hown2, -⟩ := hown1.stored n (.int .i64 y)
  rw [← E1, sigRow_zero f n, E1] at hown2
  exact ⟨hown1.frozenAt n, by rw [hown1.cellAt n (by omega)]; simp, hown2, hbel.setCell (Nat.le_refl _) _⟩

theorem cBefore' (x r : Int) (b : Bool) (w : World) (h0 : 0 ≤ x) (h3 : x ≤ 3) (hr : Hid (r = if b = true then 0 else min 3 (x + 1))) :
    Calls Tryd.prog 36 #[.int .i64 x, .bool b] w fun e w' => e = .returned (.int .i64 r) ∧ w' = w := by
  rw [hr.out]; exact cBefore x b w h0 h3

set_option maxHeartbeats 1600000 in
theorem cSigs (a : Option Addr) (cap : Nat) (bs : List Bool) (y : Int) (w : World) (hz : Bools w a bs) (hl : bs.length ≤ 100) (h0 : 0 ≤ y) (h3 : y ≤ 3) :
    Calls Tryd.prog 22 #[.slice a bs.length cap, .int .i64 y] w fun e w' => e = .returned (.slice (some ⟨w.heap.size, 0, none⟩) (bs.length + 1) (bs.length + 1)) ∧
      w'.ownsRow w.heap.size 49 1 (.slice (some ⟨w.heap.size, 0, none⟩) (bs.length + 1) (bs.length + 1)) (bs.length + 1) (sigRow (asp bs y) bs.length bs.length) ∧ Below w.heap.size w w' := by
  have E1 := asp_end (bs := bs) h0 h3
  have E2 : ∀ i (h : i < bs.length), asp bs y i = if bs[i] = true then 0 else min 3 (asp bs y (i + 1) + 1) := fun i h => by
    cases hb : bs[i]
    · rw [asp_yes h hb]; rfl
    · rw [asp_no h hb]; rfl
  have E3 : ∀ i, 0 ≤ asp bs y i ∧ asp bs y i ≤ 3 := fun i => asp_in h0
  generalize asp bs y = f at *
  obtain ⟨i0, hi, hz0, hz1, hz2⟩ := info_parts infoAsp
  go_enter Tryd.func22, Tryd.ntmps22
  go_wp2_with (at_make; refine wpList_make_full _ rfl _ _ 47 rfl w.heap.size 49 i0 (.int .i64 0) 1 Tryd.underlying47 hi hz0 hz1 _ _ _ _ (bs.length + 1) rfl rfl rfl rfl (by rw [hz2]; omega) (by unfold maxLen; omega) (Nat.le_refl _) ?_; intro w1 hown hgrow; obtain ⟨hfr, hcw, hown2, hb2⟩ := sig_start f bs.length y E1 hown hgrow; clear hown hgrow)
  clear hfr hcw
  go_loopw [6, 7, 19] (fun _ _ i wr => ∃ k : Nat, k ≤ bs.length ∧ i = .int .i64 k ∧ wr.ownsRow w.heap.size 49 1 (.slice (some ⟨w.heap.size, 0, none⟩) (bs.length + 1) (bs.length + 1)) (bs.length + 1) (sigRow f bs.length k) ∧ Below w.heap.size w wr) (fun _ _ i _ => bs.length - (intOf i).toNat)
  case atStart => exact ⟨0, Nat.zero_le _, rfl, hown2, hb2⟩
  case round =>
    obtain ⟨k, hk, rfl, hown, hb⟩ := hrel
    clear hown2 hb2
    by_cases hlt : k < bs.length
    · have hfr := hown.frozenAt (bs.length - 1 - k)
      have hcw := hown.cellAt (bs.length - 1 - k) (by omega)
      rw [sigRow_get _ _ _ _ (by omega), if_neg (by omega)] at hcw
      have hcr := hown.cellAt (bs.length - 1 - k + 1) (by omega)
      rw [sigRow_get _ _ _ _ (by omega), if_pos (by omega)] at hcr
      obtain ⟨hown3, -⟩ := hown.stored (bs.length - 1 - k) (.int .i64 (f (bs.length - 1 - k)))
      rw [sigRow_set f _ _ hlt] at hown3
      have hb3 : Below w.heap.size w (wr.setCell ⟨w.heap.size, bs.length - 1 - k, none⟩ (.int .i64 (f (bs.length - 1 - k)))) := hb.setCell (Nat.le_refl _) _
      rcases hz with hz | ⟨b, off, rfl, hc⟩
      · simp [hz] at hlt
      have hbs : b < w.heap.size := cell_lt (hc 0 (by omega))
      have hck := (hb.cell (p := ⟨b, off + (bs.length - 1 - k), none⟩) hbs).trans (hc (bs.length - 1 - k) (by omega))
      have hq1 : bs.length - 1 - k < bs.length := by omega
      have e0 : bs.getD (bs.length - 1 - k) false = bs[bs.length - 1 - k] := by simp [List.getD, hq1]
      rw [e0] at hck
      have e2 := hide (E2 (bs.length - 1 - k) (by omega))
      have e3 := E3 (bs.length - 1 - k + 1)
      have x1 : ((bs.length : Int) - 1 - (k : Int)) = ((bs.length - 1 - k : Nat) : Int) := by omega
      clear hc e0 E1 E2 E3 hown hb
      generalize bs[bs.length - 1 - k] = bb at *
      generalize hq : bs.length - 1 - k = q at *
      generalize f (q + 1) = z at *
      generalize f q = r at *
      have x2 : (q : Int) + 1 ≤ (bs.length : Int) := by omega
      have x3 : ((q : Int) + 1).toNat = q + 1 := by omega
      have x4 : IntKind.i64.wrap ((q : Int) + 1) = (q : Int) + 1 := wrap_in _ (by omega) (by omega)
      have x5 : (q : Int) + 1 < (bs.length : Int) + 1 := by omega
      have x6 : (q : Int) < (bs.length : Int) + 1 := by omega
      have x7 : (q : Int) < (bs.length : Int) := by omega
      have x8 : (0 : Int) ≤ (q : Int) := by omega
      have x9 : (0 : Int) ≤ (q : Int) + 1 := by omega
      clear hq
      go_wp2_with fail
      go_region_with (go_at_call 36; refine (cBefore' _ r _ _ e3.1 e3.2 e2).mono ?_; rintro e w1 ⟨rfl, rfl⟩)
      all_goals go_wp2
      all_goals exact ⟨⟨k + 1, by omega, by go_num, hown3, hb3.drew⟩, by simp [intOf]; omega⟩
    · obtain rfl : k = bs.length := by omega
      clear hz E1 E2 E3
      go_wp2
      go_ret
      exact ⟨rfl, hown, hb⟩
end Go.Proofs.YtcfapadcgboalaaDoor
