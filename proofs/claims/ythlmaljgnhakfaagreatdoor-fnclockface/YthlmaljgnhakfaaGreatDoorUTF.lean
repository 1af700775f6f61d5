/- A text cut at a sign, rune by rune: the program's parted. -/
import Derived.Test.YthlmaljgnhakfaaGreatDoorSPS
import Derived.Test.YthlmaljgnhakfaaGreatDoorG
import Derived.LoopTactic
import Derived.Laws.RangeAny
import Derived.Lib.OthersKept
import Derived.WalkSmall
import Derived.Maps.AppendAt
namespace Go.Proofs.YthlmaljgnhakfaaGreatDoor
open Go.RowKit
theorem get_bang (s : ByteArray) (i : Nat) (h : i < s.size) : s.get! i = s[i]'h := by
  exact get_at s i h
/-- What one rune beyond ASCII takes of a text: bytes beyond ASCII alone. -/
theorem decode_skip (s : ByteArray) (pos : Nat) (h : pos < s.size) (ha : 128 ≤ (s[pos]'h).toNat) : pos + (Utf8.decode s pos).2 ≤ s.size ∧ ∀ j (hj : j < s.size), pos ≤ j → j < pos + (Utf8.decode s pos).2 → 128 ≤ (s[j]'hj).toNat := by
  have h0 : (s.get! (pos + 0)).toNat = (s[pos]'h).toNat := by rw [Nat.add_zero, get_bang s pos h]
  have hc : ∀ k, (decide (pos + k < s.size) && (s.get! (pos + k)).toNat / 64 == 2) = true → ∃ hk : pos + k < s.size, 128 ≤ (s[pos + k]'hk).toNat := by
    intro k hk
    simp only [Bool.and_eq_true, decide_eq_true_eq, beq_iff_eq] at hk
    refine ⟨hk.1, ?_⟩
    have := hk.2
    rw [get_bang s _ hk.1] at this
    omega
  have one : (1 : Nat) = 1 → pos + 1 ≤ s.size ∧ ∀ j (hj : j < s.size), pos ≤ j → j < pos + 1 → 128 ≤ (s[j]'hj).toNat := fun _ =>
    ⟨by omega, fun j hj h1 h2 => by obtain rfl : j = pos := by omega
                                    exact ha⟩
  have hn : ¬ (s[pos]'h).toNat < 128 := by omega
  simp only [Utf8.decode, h0, hn, if_false]
  split
  · next g =>
    simp only [Bool.and_eq_true] at g
    obtain ⟨k1, c1⟩ := hc 1 (by simpa using g.2)
    split
    · exact ⟨by omega, fun j hj h1 h2 => by
        have : j = pos ∨ j = pos + 1 := by dsimp only at h2; omega
        rcases this with rfl | rfl
        · exact ha
        · exact c1⟩
    · exact one rfl
  · split
    · next g =>
      simp only [Bool.and_eq_true] at g
      obtain ⟨k1, c1⟩ := hc 1 (by simpa using g.1.2)
      obtain ⟨k2, c2⟩ := hc 2 (by simpa using g.2)
      split
      · exact ⟨by omega, fun j hj h1 h2 => by
          have : j = pos ∨ j = pos + 1 ∨ j = pos + 2 := by dsimp only at h2; omega
          rcases this with rfl | rfl | rfl
          · exact ha
          · exact c1
          · exact c2⟩
      · exact one rfl
    · split
      · next g =>
        simp only [Bool.and_eq_true] at g
        obtain ⟨k1, c1⟩ := hc 1 (by simpa using g.1.1.2)
        obtain ⟨k2, c2⟩ := hc 2 (by simpa using g.1.2)
        obtain ⟨k3, c3⟩ := hc 3 (by simpa using g.2)
        split
        · exact ⟨by omega, fun j hj h1 h2 => by
            have : j = pos ∨ j = pos + 1 ∨ j = pos + 2 ∨ j = pos + 3 := by dsimp only at h2; omega
            rcases this with rfl | rfl | rfl | rfl
            · exact ha
            · exact c1
            · exact c2
            · exact c3⟩
        · exact one rfl
      · exact one rfl
theorem SpI.skips {b : UInt8} {l : List UInt8} {f : Nat} {outs : List (List UInt8)} : ∀ (d k : Nat), SpI b l k f outs → k + d ≤ l.length → (∀ j (hj : j < l.length), k ≤ j → j < k + d → l[j] ≠ b) → SpI b l (k + d) f outs
  | 0, k, h, _, _ => h
  | d + 1, k, h, hk, hn => by
    have h1 := h.skip (by omega) (hn k (by omega) (Nat.le_refl _) (by omega))
    have h2 := SpI.skips d (k + 1) h1 (by omega) (fun j hj a b => hn j hj (by omega) (by omega))
    rw [show k + (d + 1) = k + 1 + d by omega]
    exact h2
theorem iter_keep {w w' : World} {k : Nat} {o : Obj} {r : Option Nat} (h : w.heap[k]? = some o) (hg : w.grownBy w' r) (hne : ∀ j, r = some j → j ≠ k) : w'.heap[k]? = some o :=
  (hg.block k (lt_of_block h) (fun e => hne k e.symm rfl)).trans h
set_option maxRecDepth 1000000 in
set_option maxHeartbeats 3200000 in
theorem cParted (b : UInt8) (z : Int) (hzb : z = (b.toNat : Int)) (hb128 : b.toNat < 128) (l : List UInt8) (w : World) (hm : l.length ≤ 1048576) :
    Calls Tryz.prog 21 #[.string ⟨l.toArray⟩, .int .i32 z] w (SpAns w (splitL b l)) := by
  obtain ⟨i0, hi, hz0, hz1, hz2⟩ := info_parts infoStr
  obtain ⟨t, ht⟩ : ∃ t : ByteArray, t = ⟨l.toArray⟩ := ⟨_, rfl⟩
  rw [← ht]
  have hsz : t.size = l.length := by rw [ht]; rfl
  have hix : Hid (∀ k (hk : k < l.length) h, t[k]'h = l[k]) := hide (fun k hk h => by subst ht; rw [indexR l k hk h]; simp [List.getD, hk])
  have hxp : Hid (∀ f k, t.extract f k = ⟨((l.drop f).take (k - f)).toArray⟩) := hide (by rw [ht]; exact ext_piece l)
  have hzb' := hide hzb
  replace hsz := hide hsz
  clear hzb ht
  have hO : (w.iter t 0).ownsRow (w.heap.size + 1) 9 1 (.slice none 0 0) 0 (strsL []) := World.ownsRow_nil _ _ _ _
  have hb0 : Below w.heap.size w (w.iter t 0) := balloc w (.stringIter t 0)
  have hI0 := World.iter_heap w t 0
  go_enter Tryz.func21, Tryz.ntmps21
  go_wp2
  go_loopw [5, 6, 7, 8] (fun v fv _ _ wr => ∃ (k f : Nat) (outs : List (List UInt8)), k ≤ l.length ∧ fv = .int .i64 f ∧ Hid (SpI b l k f outs) ∧ wr.heap[w.heap.size]? = some (.stringIter t k) ∧ wr.ownsRow (w.heap.size + 1) 9 1 v outs.length (strsL outs) ∧ Below w.heap.size w wr) (fun _ _ _ _ wr => t.size - wr.iterPos w.heap.size)
  case atStart => exact ⟨0, 0, [], Nat.zero_le _, rfl, hide (SpI.start b l), hI0, hO, hb0⟩
  case round =>
    clear hO hb0 hI0
    obtain ⟨k, f, outs, hk, rfl, hS, hI, ho, hb⟩ := hrel
    obtain ⟨va, vc, rfl⟩ := own_form ho
    have hol := hS.out.1
    have hwl := lt_of_block hI
    have hfk := hS.out.from_le hk
    have hX := hxp.out f k
    obtain ⟨P, hP⟩ : ∃ P, (l.drop f).take (k - f) = P := ⟨_, rfl⟩
    rw [hP] at hX
    replace hX := hide hX
    have hkt : (k : Int) ≤ (t.size : Int) := by have := hsz.out; omega
    have hf0 : (0 : Int) ≤ (f : Int) := by omega
    have hfk' : (f : Int) ≤ (k : Int) := by omega
    have hk0 : (0 : Int) ≤ (k : Int) := by omega
    by_cases hp : k < l.length
    · have hpt : k < t.size := by have := hsz.out; omega
      have hx := hix.out k hp hpt
      by_cases ha : (t[k]'hpt).toNat < 128
      · have hnx : ∀ ty, (Instr.next (.pointer (some ⟨w.heap.size, 0, none⟩)) true ty).run Tryz.prog wr = _ := fun ty => Go.Lib.run_next_ascii_at wr w.heap.size t k ty hI hpt ha
        have hI2 := Go.Lib.iterAt_heap wr w.heap.size t k (k + 1) hI
        have ho2 := ownsRow_iterAt ho (k := w.heap.size) (by omega) t (k + 1)
        have hb2 := Go.Lib.below_iterAt hb (Nat.le_refl _) t (k + 1)
        obtain ⟨c, hc⟩ : ∃ c, l[k] = c := ⟨_, rfl⟩
        rw [hc] at hx
        rw [hx] at hnx
        by_cases hcb : c = b
        · have hS2 : Hid (SpI b l (k + 1) (k + 1) (outs ++ [P])) := hide (by rw [← hP]; exact hS.out.piece hp (by rw [hc, hcb]))
          have hzc : (c.toNat : Int) = z := by rw [hzb'.out, hcb]
          rw [hzc] at hnx
          have hpos : Hid (wr.iterPos w.heap.size = k) := hide (iterPos_of hI)
          clear hP hS hix hxp ho hb hI hc hcb hx hzc ha
          generalize wr.iterAt w.heap.size t (k + 1) = wi at *
          have ho3 := own_keep ho2 (balloc wi (.cells #[.string (t.extract f k)] 9))
          have hws := hb2.size
          go_wp2_with (at_builtin; refine wpList_append_own _ rfl _ _ 53 rfl (w.heap.size + 1) 9 i0 _ 1 16 Tryz.underlying53 hi hz0 hz1 hz2 rfl (by decide) _ _ _ rfl ho3 ⟨wi.heap.size, 0, none⟩ 1 1 [.string (t.extract f k)] rfl rfl ?c1 ?c2 ?c3 ?c4 ?c5 ?_)
          case c1 => exact news1 wi _ _
          case c2 => intro u hu; simp at hu; subst hu; rfl
          case c3 => unfold maxLen; omega
          case c4 => omega
          case c5 => have := lt_of_block hI2; simp; omega
          intro v2 w5 hown hgrow _
          have hfr := own_from ho3 (Nat.le_refl _)
          have hb5 : Below w.heap.size w w5 := (btrans hb2 (balloc wi (.cells #[.string (t.extract f k)] 9))).grown hgrow (btrans hb2 (balloc wi _)).size (fun j hj => by have := hfr j hj; omega)
          have hI5 := iter_keep (blk_keep (balloc wi (.cells #[.string (t.extract f k)] 9)) hI2) hgrow (fun j hj => by have := hfr j hj; omega)
          have hown2 : w5.ownsRow (w.heap.size + 1) 9 1 v2 (outs ++ [P]).length (strsL (outs ++ [P])) := by
            rw [strsL_snoc, List.length_append, ← hX.out]; exact hown
          clear hown hgrow ho3 hfr hI2 ho2 hb2
          go_wp2
          go_roundw
          case rel => exact ⟨k + 1, k + 1, outs ++ [P], by omega, by go_num, hS2, hI5, hown2, hb5⟩
          case measure => rw [iterPos_of hI5, hpos.out]; omega
        · have hS2 : Hid (SpI b l (k + 1) f outs) := hide (hS.out.skip hp (by rw [hc]; exact hcb))
          have hzc : ((c.toNat : Int) == z) = false := by rw [beq_eq_false_iff_ne, hzb'.out]; intro e; exact hcb (UInt8.toNat_inj.1 (by omega))
          have hpos : Hid (wr.iterPos w.heap.size = k) := hide (iterPos_of hI)
          clear hP hS hix hxp ho hb hI hc hcb hx ha hX
          generalize wr.iterAt w.heap.size t (k + 1) = wi at *
          go_wp2
          go_roundw
          case rel => exact ⟨k + 1, f, outs, by omega, rfl, hS2, hI2, ho2, hb2⟩
          case measure => rw [iterPos_of hI2, hpos.out]; omega
      · have hnx : ∀ ty, (Instr.next (.pointer (some ⟨w.heap.size, 0, none⟩)) true ty).run Tryz.prog wr = _ := fun ty => Go.Lib.run_next_any_at wr w.heap.size t k ty hI hpt
        obtain ⟨hd1, hd2⟩ := decode_high t k hpt (by omega)
        obtain ⟨hd3, hd4⟩ := decode_skip t k hpt (by omega)
        have hI2 := Go.Lib.iterAt_heap wr w.heap.size t k (k + (Utf8.decode t k).2) hI
        have ho2 := ownsRow_iterAt ho (k := w.heap.size) (by omega) t (k + (Utf8.decode t k).2)
        have hb2 := Go.Lib.below_iterAt hb (Nat.le_refl _) t (k + (Utf8.decode t k).2)
        have hS2 : Hid (SpI b l (k + (Utf8.decode t k).2) f outs) := hide (SpI.skips _ k hS.out (by have := hsz.out; omega) (fun j hj a1 a2 e => by
          have hjt : j < t.size := by have := hsz.out; omega
          have := hd4 j hjt a1 a2
          rw [hix.out j hj hjt, e] at this
          omega))
        have hzc : (((Utf8.decode t k).1 : Int) == z) = false := by rw [beq_eq_false_iff_ne, hzb'.out]; omega
        have hpos : Hid (wr.iterPos w.heap.size = k) := hide (iterPos_of hI)
        have hle : k + (Utf8.decode t k).2 ≤ l.length := by have := hsz.out; omega
        generalize wr.iterAt w.heap.size t (k + (Utf8.decode t k).2) = wi at *
        generalize (Utf8.decode t k).2 = d at *
        generalize (((Utf8.decode t k).1 : Nat) : Int) = r at *
        clear hP hS hix hxp ho hb hI hx ha hX hd1 hd3 hd4
        go_wp2
        go_roundw
        case rel => exact ⟨k + d, f, outs, hle, rfl, hS2, hI2, ho2, hb2⟩
        case measure => rw [iterPos_of hI2, hpos.out]; have := hsz.out; omega
    · obtain rfl : l.length = k := by omega
      have hpt : ¬ l.length < t.size := by have := hsz.out; omega
      have hnx : ∀ ty, (Instr.next (.pointer (some ⟨w.heap.size, 0, none⟩)) true ty).run Tryz.prog wr = _ := fun ty => Go.Lib.run_next_end_at wr w.heap.size t l.length ty hI hpt
      have hD : Hid (outs ++ [P] = splitL b l) := hide (by rw [← hP]; exact hS.out.last.done (by omega))
      have hXe : t.extract f t.size = t.extract f l.length := by rw [hsz.out]
      have hft : (f : Int) ≤ (t.size : Int) := by omega
      replace hXe := hide hXe
      have ho3 := own_keep ho (balloc wr (.cells #[.string (t.extract f t.size)] 9))
      have hws := hb.size
      clear hP hS hix hxp hkt hfk' hk0
      go_wp2_with (at_builtin; refine wpList_append_own _ rfl _ _ 53 rfl (w.heap.size + 1) 9 i0 _ 1 16 Tryz.underlying53 hi hz0 hz1 hz2 rfl (by decide) _ _ _ rfl ho3 ⟨wr.heap.size, 0, none⟩ 1 1 [.string (t.extract f t.size)] rfl rfl ?c1 ?c2 ?c3 ?c4 ?c5 ?_)
      case c1 => exact news1 wr _ _
      case c2 => intro u hu; simp at hu; subst hu; rfl
      case c3 => unfold maxLen; omega
      case c4 => omega
      case c5 => simp; omega
      intro v2 w5 hown hgrow _
      have hfr := own_from ho3 (Nat.le_refl _)
      have hb5 : Below w.heap.size w w5 := (btrans hb (balloc wr (.cells #[.string (t.extract f t.size)] 9))).grown hgrow (btrans hb (balloc wr _)).size (fun j hj => by have := hfr j hj; omega)
      have hown2 : w5.ownsRow (w.heap.size + 1) 9 1 v2 (splitL b l).length (strsL (splitL b l)) := by
        rw [← hD.out, strsL_snoc, List.length_append, ← hX.out, ← hXe.out]; exact hown
      obtain ⟨a2, c2, rfl⟩ := own_form hown2
      clear hown hgrow ho3 hfr ho
      go_wp2
      go_ret
      exact ⟨a2, c2, rfl, own_base hown2 (by omega), hb5⟩
end Go.Proofs.YthlmaljgnhakfaaGreatDoor
