/- Right formations: FormOk of the program and of the model. -/
import Derived.Test.YtnddhpdhbmbikaaDoorCA
import Derived.Deep.RegionHeld3
import Derived.Deep.AppendLies
namespace Go.Proofs.YtnddhpdhbmbikaaDoor
open Go.RowKit
def ids (l : List UV) : List Int := l.map UV.i
theorem ids_len (l : List UV) : (ids l).length = l.length := by simp [ids]
def metL (l : List UV) : List UV := (ids l).map namedU
theorem metL_len (l : List UV) : (metL l).length = l.length := by simp [metL, ids]
theorem metL_step {l : List UV} {k : Nat} (hk : k < l.length) : flatUs (metL (l.take (k + 1))) = flatUs (metL (l.take k)) ++ [.int .i64 (l.getD k UV.zero).i, .int .i64 0, .int .i64 0, .bool false] := by
  have e : l.getD k UV.zero = l[k] := by simp [List.getD, hk]
  rw [List.take_succ_eq_append_getElem hk, e, metL, metL, ids, ids, List.map_append, List.map_append, flatUs_app]
  rfl
theorem met_no {l : List UV} {k : Nat} (hk : k < l.length) (h : (l.getD k UV.zero).i ∉ ids (l.take k)) : ∀ j, j < k → (l.getD j UV.zero).i ≠ (l.getD k UV.zero).i := by
  intro j hj e
  apply h
  rw [← e]
  have hj2 : j < l.length := by omega
  simp only [ids, List.mem_map]
  exact ⟨l[j], by rw [List.mem_take_iff_getElem]; exact ⟨j, by omega, rfl⟩, by simp [List.getD, hj2]⟩
theorem met_yes {l : List UV} {k : Nat} (hk : k < l.length) (h : (l.getD k UV.zero).i ∈ ids (l.take k)) : formB l = false := by
  simp only [ids, List.mem_map] at h
  obtain ⟨u, hu, e⟩ := h
  rw [List.mem_take_iff_getElem] at hu
  obtain ⟨j, hj, rfl⟩ := hu
  have hj2 : j < l.length := by omega
  exact formB_twice hk (j := j) (by omega) (by simpa [List.getD, hj2] using e)

set_option maxRecDepth 20000 in
set_option maxHeartbeats 3200000 in
theorem cFormI (a : Option Addr) (cap : Nat) (l : List UV) (w : World) (he : Us w a l) (hl : l.length ≤ maxLen) :
    Calls Tryd.prog 10 #[.slice a l.length cap] w fun e w' => e = .returned (.bool (formB l)) ∧ Below w.heap.size w w' := by
  unfold maxLen at hl
  by_cases h30 : 30 < l.length
  · have E := hide (formB_long h30)
    have hi : (30 : Int) < (l.length : Int) := by omega
    go_enter Tryd.func10, Tryd.ntmps10
    go_wp2
    go_ret
    exact ⟨ret_bool E.out.symm, Below.refl _ _⟩
  have hi : ¬ (30 : Int) < (l.length : Int) := by omega
  have H30 := hide h30
  clear h30
  obtain ⟨i0, hi0, hz0, hz1, hz2⟩ := info_parts infoUs
  have O0 : w.ownsRow w.heap.size 34 4 (.slice none 0 0) 0 (flatUs (metL (l.take 0))) := by
    have := World.ownsRow_nil w w.heap.size 34 4
    simpa [metL, ids, flatUs] using this
  go_enter Tryd.func10, Tryd.ntmps10
  go_wp2
  go_loopw [3, 11] (fun v i wr => ∃ k : Nat, k ≤ l.length ∧ i = .int .i64 k ∧ wr.ownsRow w.heap.size 34 4 v k (flatUs (metL (l.take k))) ∧ GoodTo l k ∧ Below w.heap.size w wr) (fun _ i _ => l.length - (intOf i).toNat)
  case atStart => exact ⟨0, Nat.zero_le _, rfl, O0, GoodTo.zero l, Below.refl _ _⟩
  case round =>
    obtain ⟨k, hk, rfl, ho, hg, hb⟩ := hrel
    clear O0
    have hg := hide hg
    by_cases hlt : k < l.length
    · have hlt' : (k : Int) < (l.length : Int) := by omega
      rcases he with h | ⟨b1, o1, rfl, q1⟩
      · simp [h] at hlt
      obtain ⟨p0, p1, p2, p3⟩ := q1 k hlt
      replace p0 := ble hb p0
      replace p1 := ble hb p1
      replace p2 := ble hb p2
      replace p3 := ble hb p3
      have hk30 : k < 30 := by have := H30.out; omega
      have S1 := hide (metL_step hlt)
      have Bad := hide (formB_bad hlt)
      have Twice := hide (met_yes hlt)
      have Next : Hid (uOk (l.getD k UV.zero) = true → (l.getD k UV.zero).i ∉ ids (l.take k) → GoodTo l (k + 1)) := hide (fun hu hn => hg.out.step hu (met_no hlt hn))
      have hkl := hide (show (ids (l.take k)).length = k by rw [ids_len, List.length_take]; omega)
      obtain ⟨va, vc, rfl⟩ := own_form ho
      have hU : Hid (Us wr va ((ids (l.take k)).map namedU)) := hide (Us.own ho)
      have CO := fun w => cUnitOk (l.getD k UV.zero) w
      have CN := fun w => cNamed (l.getD k UV.zero) w
      have CC := fun (cap : Nat) w (he : Us w va ((ids (l.take k)).map namedU)) => cContN va cap (ids (l.take k)) (l.getD k UV.zero).i w he (by rw [hkl.out]; omega)
      rw [hkl.out] at CC
      clear q1 hg hkl
      generalize ids (l.take k) = X at *
      generalize l.getD k UV.zero = y at *
      obtain ⟨yi, yc, ym, yb⟩ := y
      unfold UV.val at CO
      unfold UV.val namedU at CN CC
      dsimp only at *
      have hb1 := balloc wr (.cells #[.int .i64 yi, .int .i64 yc, .int .i64 ym, .bool yb] 34)
      have A1 := one_block' wr (.cells #[.int .i64 yi, .int .i64 yc, .int .i64 ym, .bool yb] 34)
      have hlw : wr.heap.size < wr.heap.size + 1 := by omega
      go_wp2_with fail
      refine (CO _).mono ?_
      rintro e w1 ⟨rfl, hb2⟩
      have A2 := blk_keep hb2 A1
      have x0 := blk_cell A2 0
      have x1 := blk_cell A2 1
      have x2 := blk_cell A2 2
      have x3 := blk_cell A2 3
      simp at x0 x1 x2 x3
      have hB2 := btrans hb1 hb2
      have HB := btrans hb hB2
      cases hu : uOk ⟨yi, yc, ym, yb⟩
      · have E := hide (Bad.out hu)
        clear Bad Twice Next CO CN CC
        go_wp2
        go_ret
        exact ⟨ret_bool E.out.symm, HB⟩
      go_wp2_with fail
      refine (CN _).mono ?_
      rintro e w2 ⟨rfl, hb3⟩
      have hB3 := btrans hB2 hb3
      clear x0 x1 x2 x3
      go_wp2_with fail
      refine (CC _ _ (hU.out.below hB3)).mono ?_
      rintro e w3 ⟨rfl, hb4⟩
      have hB4 := btrans hB3 hb4
      by_cases hm : yi ∈ X
      · have E := hide (Twice.out hm)
        rw [show decide (yi ∈ X) = true by simp [hm]]
        clear Bad Twice Next CO CN CC
        go_wp2
        go_ret
        exact ⟨ret_bool E.out.symm, btrans hb hB4⟩
      have G2 := hide (Next.out hu hm)
      rw [show decide (yi ∈ X) = false by simp [hm]]
      clear hm
      have A3 := blk_keep (btrans hb3 hb4) A2
      have x0 := blk_cell A3 0
      have x1 := blk_cell A3 1
      have x2 := blk_cell A3 2
      have x3 := blk_cell A3 3
      simp at x0 x1 x2 x3
      clear Bad Twice Next CO CC
      go_wp2_with fail
      refine (CN _).mono ?_
      rintro e w4 ⟨rfl, hb5⟩
      have hB5 := btrans hB4 hb5
      have hN := one_block' w4 (.cells #[.int .i64 yi, .int .i64 0, .int .i64 0, .bool false] 34)
      have hb6 := balloc w4 (.cells #[.int .i64 yi, .int .i64 0, .int .i64 0, .bool false] 34)
      have hB6 := btrans hB5 hb6
      have ho6 := own_keep ho hB6
      have hbx := btrans hb hB6
      clear hb1 hb2 hb3 hb4 hb5 hb6 hB2 hB3 hB4 hB5 hB6 HB A1 A2 A3 x0 x1 x2 x3 CN hU hlw ho p0 p1 p2 p3
      go_wp2_with (at_builtin; refine wpList_append_own _ rfl _ _ 24 rfl w.heap.size 34 i0 _ 4 32 Tryd.underlying24 hi0 hz0 hz1 hz2 rfl (by decide) _ _ _ rfl ho6 ⟨w4.heap.size, 0, none⟩ 1 1 [.int .i64 yi, .int .i64 0, .int .i64 0, .bool false] rfl rfl ?c1 ?c2 ?c3 ?c4 ?c5 ?_)
      case c1 => exact World.news_of_block hN
      case c2 => intro u hu; simp at hu; rcases hu with rfl | rfl | rfl <;> rfl
      case c3 => unfold maxLen; omega
      case c4 => omega
      case c5 => exact hbx.size
      intro v2 w5 hown hgrow _
      have hb5 := hbx.grown hgrow hbx.size (own_from ho6 (Nat.le_refl _))
      rw [← S1.out] at hown
      clear hgrow hN ho6 hbx S1
      go_wp2
      go_roundw
      case rel => exact ⟨k + 1, by omega, by go_num, hown, G2.out, hb5⟩
      case measure => simp [intOf]; omega
    · obtain rfl : k = l.length := by omega
      have E := hide (hg.out.form (by have := H30.out; omega))
      clear hg he ho
      go_wp2
      go_ret
      exact ⟨ret_bool E.out.symm, hb⟩
end Go.Proofs.YtnddhpdhbmbikaaDoor
