/- The text of a formation, of both. -/
import Derived.Test.YtnddhpdhbmbikaaDoorTX
namespace Go.Proofs.YtnddhpdhbmbikaaDoor
open Go.RowKit
theorem infoStr : (Tryd.prog.info? 9).map (fun i => (i.zero, i.size, i.bytes)) = some (some (.string ⟨#[]⟩), 1, 16) := by kernel_rfl
def wordsU (l : List UV) : List ByteArray := l.map fun u => ⟨(unitL u).toArray⟩
theorem wordsU_len (l : List UV) : (wordsU l).length = l.length := by simp [wordsU]
theorem wordsU_step {l : List UV} {k : Nat} (hk : k < l.length) : (wordsU (l.take (k + 1))).map Value.string = (wordsU (l.take k)).map Value.string ++ [.string ⟨(unitL (l.getD k UV.zero)).toArray⟩] := by
  have e : l.getD k UV.zero = l[k] := by simp [List.getD, hk]
  rw [List.take_succ_eq_append_getElem hk, e, wordsU, wordsU, List.map_append, List.map_append]
  rfl
theorem join_words (x : List UInt8) (ws : List (List UInt8)) : Lib.join (x :: ws) [43] = x ++ ws.flatMap (fun w => 43 :: w) := by
  unfold Lib.join
  induction ws generalizing x with
  | nil => simp [List.intercalate, List.intersperse]
  | cons y ys ih =>
    rw [List.flatMap_cons]
    have := ih y
    simp only [List.intercalate] at this ⊢
    rw [List.intersperse_cons_cons]
    simp only [List.flatten_cons, this]
    simp
theorem join_units (l : List UV) (h : l ≠ []) : Lib.join ((wordsU l).map (·.data.toList)) [43] = joinL l := by
  cases l with
  | nil => exact absurd rfl h
  | cons u l =>
    simp only [wordsU, List.map_cons, join_words, joinL]
    congr 1
    induction l with
    | nil => rfl
    | cons v l ih => simp [List.flatMap_cons] at ih ⊢; rw [ih]

set_option maxRecDepth 100000 in
set_option maxHeartbeats 3200000 in
theorem cStockI (a : Option Addr) (cap : Nat) (l : List UV) (w : World) (ht : Tab w) (he : Us w a l) (hl : l.length ≤ maxLen) :
    Calls Tryd.prog 14 #[.slice a l.length cap] w fun e w' => e = .returned (S (stockL l)) ∧ Below w.heap.size w w' := by
  have CF := cFormI a cap l w he hl
  unfold maxLen at hl
  go_enter Tryd.func14, Tryd.ntmps14
  go_wp2_with fail
  refine CF.mono ?_
  rintro e w1 ⟨rfl, hb1⟩
  clear CF
  cases hf : formB l
  · have E := hide (stock_no hf)
    go_wp2
    go_ret
    exact ⟨by rw [E.out]; rfl, hb1⟩
  by_cases h0 : l = []
  · subst h0
    go_wp2
    go_ret
    exact ⟨by rw [stock_nil]; rfl, hb1⟩
  have h30 := (formB_iff.1 hf).1
  have hp : 0 < l.length := List.length_pos_iff.2 h0
  have hz : ((l.length : Int) == 0) = false := by rw [beq_eq_false_iff_ne]; omega
  have FU : Hid (∀ k, k < l.length → uOk (l.getD k UV.zero) = true) := hide (fun k hk => form_u hf hk)
  have JL := hide (joinL_take_le hf l.length)
  have H0 := hide h0
  have HF := hide hf
  have ht1 := ht.below hb1
  have he1 := he.below hb1
  obtain ⟨i0, hi, hz0, hz1, hz2⟩ := info_parts infoStr
  have O0 : w1.ownsRow w1.heap.size 9 1 (.slice none 0 0) 0 ((wordsU (l.take 0)).map Value.string) := World.ownsRow_nil _ _ _ _
  clear h0 hf ht he
  go_wp2
  go_loopw [3, 15] (fun v i wr => ∃ k : Nat, k ≤ l.length ∧ i = .int .i64 k ∧ wr.ownsRow w1.heap.size 9 1 v k ((wordsU (l.take k)).map Value.string) ∧ Below w1.heap.size w1 wr) (fun _ i _ => l.length - (intOf i).toNat)
  case atStart => exact ⟨0, by omega, rfl, O0, Below.refl _ _⟩
  case round =>
    obtain ⟨k, hk, rfl, ho, hbr⟩ := hrel
    clear O0
    by_cases hlt : k < l.length
    · obtain ⟨va, vc, rfl⟩ := own_form ho
      have S1 := hide (wordsU_step hlt)
      have gu := FU.out k hlt
      rcases he1 with h | ⟨b, off, rfl, hc⟩
      · exact absurd h H0.out
      obtain ⟨q0, q1, q2, q3⟩ := hc k hlt
      replace q0 := ble hbr q0
      replace q1 := ble hbr q1
      replace q2 := ble hbr q2
      replace q3 := ble hbr q3
      have CT := fun w ht => cText (l.getD k UV.zero) w ht gu
      have hcl := unitL_le gu
      generalize unitL (l.getD k UV.zero) = L at *
      generalize l.getD k UV.zero = y at *
      obtain ⟨yi, yc, ym, yb⟩ := y
      unfold UV.val at CT
      dsimp only at *
      have hb1' := balloc wr (.cells #[.int .i64 yi, .int .i64 yc, .int .i64 ym, .bool yb] 34)
      have ht2 : Tab (wr.alloc (.cells #[.int .i64 yi, .int .i64 yc, .int .i64 ym, .bool yb] 34)) := ht1.below (btrans hbr hb1')
      clear hc gu
      go_wp2_with fail
      refine (CT _ ht2).mono ?_
      rintro e w3 ⟨rfl, hb3⟩
      have hbw := btrans hbr (btrans hb1' hb3)
      have hN := one_block' w3 (.cells #[.string ⟨L.toArray⟩] 9)
      have hb4 := balloc w3 (.cells #[.string ⟨L.toArray⟩] 9)
      have ho4 := own_keep (own_keep ho (btrans hb1' hb3)) hb4
      have hbx := btrans hbw hb4
      clear CT ht2 hb1' hb3 hbw hb4 q0 q1 q2 q3
      go_wp2_with (at_builtin; refine wpList_append_own _ rfl _ _ 50 rfl w1.heap.size 9 i0 _ 1 16 Tryd.underlying50 hi hz0 hz1 hz2 rfl (by decide) _ _ _ rfl ho4 ⟨w3.heap.size, 0, none⟩ 1 1 [.string ⟨L.toArray⟩] rfl rfl ?c1 ?c2 ?c3 ?c4 ?c5 ?_)
      case c1 => exact World.news_of_block hN
      case c2 => simp [Value.oneCell']
      case c3 => unfold maxLen; omega
      case c4 => omega
      case c5 => exact hbx.size
      intro v2 w5 hown hgrow _
      have hb5 := hbx.grown hgrow hbx.size (own_from ho4 (Nat.le_refl _))
      rw [← S1.out] at hown
      clear hgrow hN ho4 hbx ho S1
      go_wp2
      go_roundw
      case rel => exact ⟨k + 1, by omega, by go_num, hown, hb5⟩
      case measure => simp [intOf]; omega
    · obtain rfl : k = l.length := by omega
      rw [List.take_length] at ho JL
      rcases ho.2 with ⟨_, h0⟩ | ⟨g, c2, cur, rfl, hg1, hg2, hg3, _⟩
      · omega
      have hcells : ∀ (j : Nat) x, (wordsU l)[j]? = some x → wr.cell? ⟨g, 0 + j, none⟩ = some (.string x) := fun j x hx => by
        have hj : j < (wordsU l).length := (List.getElem?_eq_some_iff.1 hx).1
        rw [wordsU_len] at hj
        rw [Nat.zero_add, ho.cellAt j (by omega), List.getElem?_map, hx]; rfl
      have CJ := Tryd.strings_Join g 0 c2 (wordsU l) ⟨#[43]⟩ wr hcells (lt_of_block hg2) (by rw [wordsU_len]; omega) (by rw [wordsU_len]; exact hg3) (by
        rw [show (⟨#[43]⟩ : ByteArray).data.toList = [43] from rfl, join_units l H0.out]; have := JL.out; omega)
      rw [show (⟨#[43]⟩ : ByteArray).data.toList = [43] from rfl, join_units l H0.out, wordsU_len] at CJ
      have hb9 := btrans hb1 hbr
      have E1 := hide (stock_yes HF.out H0.out)
      have E2 := hide (stock_long HF.out H0.out)
      have jl := JL.out
      clear hcells ho hg2 he1 JL FU
      generalize joinL l = J at *
      go_wp2_with fail
      refine CJ.mono ?_
      rintro e w6 ⟨rfl, hb6⟩
      have hb7 := btrans hb9 hb6
      clear CJ
      by_cases hJ : 120 < J.length
      · have E := hide (E2.out hJ)
        have hJ' : (120 : Int) < (J.length : Int) := by omega
        clear E1 E2 hJ
        go_wp2
        go_ret
        exact ⟨by rw [E.out]; rfl, hb7⟩
      · have E := hide (E1.out (by omega))
        have hJ' : ¬ (120 : Int) < (J.length : Int) := by omega
        clear E1 E2 hJ
        go_wp2
        go_ret
        exact ⟨by rw [E.out]; rfl, hb7⟩
end Go.Proofs.YtnddhpdhbmbikaaDoor
