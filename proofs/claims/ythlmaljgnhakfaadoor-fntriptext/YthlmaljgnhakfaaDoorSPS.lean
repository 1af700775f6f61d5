/- A text cut at a byte: the model's l08Split. -/
import Derived.Test.YthlmaljgnhakfaaDoorSPM
import Derived.Test.YthlmaljgnhakfaaDoorTX
import Derived.Maps.AppendAt
namespace Go.Proofs.YthlmaljgnhakfaaDoor
open Go.RowKit
theorem news1 (W : World) (c0 : Value) (t : TypeId) : ∀ j u, [c0][j]? = some u → (W.alloc (.cells #[c0] t)).cell? ((⟨W.heap.size, 0, none⟩ : Addr).add j) = some u := by
  intro j u hj
  match j, hj with
  | 0, hj => simp at hj; subst hj; simp [Addr.add, go_sem]
set_option maxRecDepth 100000 in
set_option maxHeartbeats 3200000 in
theorem cSplit (b : UInt8) (z : Int) (hzb : z = (b.toNat : Int)) (l : List UInt8) (w : World) (hm : l.length ≤ 1048576) :
    Calls Tryd.prog 30 #[.string ⟨l.toArray⟩, .int .u8 z] w (SpAns w (splitL b l)) := by
  obtain ⟨i0, hi, hz0, hz1, hz2⟩ := info_parts infoStr
  have hO := World.ownsRow_made (base := w.heap.size) (e := 9) (size := 1) w #[] 0 (by simp) (by unfold maxLen; omega) rfl
  have hb0 := balloc w (.cells #[] 9)
  obtain ⟨t, ht⟩ : ∃ t : ByteArray, t = ⟨l.toArray⟩ := ⟨_, rfl⟩
  rw [← ht]
  have hsz : t.size = l.length := by rw [ht]; rfl
  have hix : Hid (∀ k (hk : k < l.length) h, t[k]'h = l[k]) := hide (fun k hk h => by subst ht; rw [indexR l k hk h]; simp [List.getD, hk])
  have hxp : Hid (∀ f k, t.extract f k = ⟨((l.drop f).take (k - f)).toArray⟩) := hide (by rw [ht]; exact ext_piece l)
  have hzb' := hide hzb
  replace hsz := hide hsz
  clear hzb ht
  go_enter Tryd.func30, Tryd.ntmps30
  go_wp2
  go_loopw [5, 6, 7] (fun v fv iv wr => ∃ (k f : Nat) (outs : List (List UInt8)), k ≤ l.length + 1 ∧ iv = .int .i64 k ∧ fv = .int .i64 f ∧ Hid (SpI b l k f outs) ∧ wr.ownsRow w.heap.size 9 1 v outs.length (strsL outs) ∧ Below w.heap.size w wr) (fun _ _ iv _ => l.length + 1 - (intOf iv).toNat)
  case atStart => exact ⟨0, 0, [], Nat.zero_le _, rfl, rfl, hide (SpI.start b l), hO, hb0⟩
  case round =>
    clear hO hb0
    obtain ⟨k, f, outs, hk, rfl, rfl, hS, ho, hb⟩ := hrel
    obtain ⟨va, vc, rfl⟩ := own_form ho
    have hk0 : (0 : Int) ≤ (k : Int) := by omega
    by_cases hkl : k ≤ l.length
    · have hfk := hS.out.from_le hkl
      have hol := hS.out.1
      have hX := hxp.out f k
      have hkt : (k : Int) ≤ (t.size : Int) := by have := hsz.out; omega
      have hf0 : (0 : Int) ≤ (f : Int) := by omega
      have hfk' : (f : Int) ≤ (k : Int) := by omega
      obtain ⟨P, hP⟩ : ∃ P, (l.drop f).take (k - f) = P := ⟨_, rfl⟩
      rw [hP] at hX
      replace hX := hide hX
      have hPl : P.length ≤ 1048576 := by rw [← hP]; simp; omega
      by_cases hke : k = l.length
      · have hS2 : Hid (SpI b l (k + 1) (k + 1) (outs ++ [P])) := hide (by subst hke; rw [← hP]; exact hS.out.last)
        have hkt2 : ((k : Int) == (t.size : Int)) = true := by rw [beq_iff_eq]; have := hsz.out; omega
        have hke' := hide hke
        have ho1 := own_keep ho (balloc wr (.cells #[.string (t.extract f k)] 9))
        clear hke hP hS hix hxp ho
        go_wp2_with (at_builtin; refine wpList_append_own _ rfl _ _ 45 rfl w.heap.size 9 i0 _ 1 16 Tryd.underlying45 hi hz0 hz1 hz2 rfl (by decide) _ _ _ rfl ho1 ⟨wr.heap.size, 0, none⟩ 1 1 [.string (t.extract f k)] rfl rfl ?c1 ?c2 ?c3 ?c4 ?c5 ?_)
        case c1 => exact news1 wr _ _
        case c2 => intro u hu; simp at hu; subst hu; rfl
        case c3 => unfold maxLen; omega
        case c4 => omega
        case c5 => have := hb.size; simp; omega
        intro v2 w5 hown hgrow _
        have hfr := own_from ho1 (Nat.le_refl _)
        have hb5 : Below w.heap.size w w5 := (btrans hb (balloc wr (.cells #[.string (t.extract f k)] 9))).grown hgrow (btrans hb (balloc wr _)).size hfr
        have hown2 : w5.ownsRow w.heap.size 9 1 v2 (outs ++ [P]).length (strsL (outs ++ [P])) := by
          rw [strsL_snoc, List.length_append, ← hX.out]; exact hown
        clear hown hgrow ho1 hfr
        go_wp2
        go_roundw
        case rel => exact ⟨k + 1, k + 1, outs ++ [P], by omega, by go_num, by go_num, hS2, hown2, hb5⟩
        case measure => simp [intOf]; omega
      · have hkl2 : k < l.length := by omega
        have hkt3 : (k : Int) < (t.size : Int) := by have := hsz.out; omega
        have hkt4 : ¬ ((k : Int) = (t.size : Int)) := by have := hsz.out; omega
        have hx : ∀ h, t[k]'h = l[k] := fun h => hix.out k hkl2 h
        obtain ⟨c, hc⟩ : ∃ c, l[k] = c := ⟨_, rfl⟩
        rw [hc] at hx
        by_cases hcb : c = b
        · have hS2 : Hid (SpI b l (k + 1) (k + 1) (outs ++ [P])) := hide (by rw [← hP]; exact hS.out.piece hkl2 (by rw [hc, hcb]))
          have hzc : (c.toNat : Int) = z := by rw [hzb'.out, hcb]
          have ho1 := own_keep ho (balloc wr (.cells #[.string (t.extract f k)] 9))
          clear hke hP hS hix hxp ho hc hcb
          go_wp2_with (at_builtin; refine wpList_append_own _ rfl _ _ 45 rfl w.heap.size 9 i0 _ 1 16 Tryd.underlying45 hi hz0 hz1 hz2 rfl (by decide) _ _ _ rfl ho1 ⟨wr.heap.size, 0, none⟩ 1 1 [.string (t.extract f k)] rfl rfl ?c1 ?c2 ?c3 ?c4 ?c5 ?_)
          case c1 => exact news1 wr _ _
          case c2 => intro u hu; simp at hu; subst hu; rfl
          case c3 => unfold maxLen; omega
          case c4 => omega
          case c5 => have := hb.size; simp; omega
          intro v2 w5 hown hgrow _
          have hfr := own_from ho1 (Nat.le_refl _)
          have hb5 : Below w.heap.size w w5 := (btrans hb (balloc wr (.cells #[.string (t.extract f k)] 9))).grown hgrow (btrans hb (balloc wr _)).size hfr
          have hown2 : w5.ownsRow w.heap.size 9 1 v2 (outs ++ [P]).length (strsL (outs ++ [P])) := by
            rw [strsL_snoc, List.length_append, ← hX.out]; exact hown
          clear hown hgrow ho1 hfr
          go_wp2
          go_roundw
          case rel => exact ⟨k + 1, k + 1, outs ++ [P], by omega, by go_num, by go_num, hS2, hown2, hb5⟩
          case measure => simp [intOf]; omega
        · have hS2 : Hid (SpI b l (k + 1) f outs) := hide (hS.out.skip hkl2 (by rw [hc]; exact hcb))
          have hzc : ((c.toNat : Int) == z) = false := by rw [beq_eq_false_iff_ne, hzb'.out]; intro e; exact hcb (UInt8.toNat_inj.1 (by omega))
          clear hke hP hS hix hxp hc hcb hX
          go_wp2
          go_roundw
          case rel => exact ⟨k + 1, f, outs, by omega, by go_num, rfl, hS2, ho, hb⟩
          case measure => simp [intOf]; omega
    · have hkl3 : ¬ ((k : Int) ≤ (t.size : Int)) := by have := hsz.out; omega
      have he := hS.out.done hkl
      subst he
      clear hS hix hxp
      go_wp2
      go_ret
      exact ⟨va, vc, rfl, ho, hb⟩
end Go.Proofs.YthlmaljgnhakfaaDoor
