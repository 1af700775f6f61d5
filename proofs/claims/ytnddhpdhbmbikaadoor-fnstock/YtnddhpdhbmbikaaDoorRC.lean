/- A row of digits read as a number, at most so great. -/
import Derived.Test.YtnddhpdhbmbikaaDoorRB
import Derived.LoopTactic
import Derived.Laws.RangeAny
namespace Go.Proofs.YtnddhpdhbmbikaaDoor
open Go.RowKit
/-- Digits as a number, -1 as soon as it is beyond most. -/
def rdN (most : Nat) : List UInt8 → Nat → Int
  | [], n => n
  | b :: bs, n => if most < 10 * n + (b.toNat - 48) then -1 else rdN most bs (10 * n + (b.toNat - 48))
theorem rdN_drop {most : Nat} {s : ByteArray} {k n : Nat} (hk : k < s.size) : rdN most (s.data.toList.drop k) n = if most < 10 * n + ((s[k]'hk).toNat - 48) then -1 else rdN most (s.data.toList.drop (k + 1)) (10 * n + ((s[k]'hk).toNat - 48)) := by
  have hl : k < s.data.toList.length := by simpa using hk
  have e : s.data.toList[k]'hl = s[k]'hk := by simp; rfl
  rw [List.drop_eq_getElem_cons hl, rdN, e]
theorem rdN_end {most : Nat} {s : ByteArray} {k n : Nat} (hk : ¬ k < s.size) : rdN most (s.data.toList.drop k) n = n := by
  rw [List.drop_eq_nil_of_le (by simpa using hk)]; rfl
set_option maxRecDepth 1000000 in
set_option maxHeartbeats 800000 in
theorem cUpTo (s : ByteArray) (most : Nat) (w : World) (hm : most ≤ 100000) (hd : ∀ k (hk : k < s.size), 48 ≤ (s[k]'hk).toNat ∧ (s[k]'hk).toNat ≤ 57) :
    Calls Tryd.prog 69 #[.string s, .int .i64 (most : Int)] w fun e w' => e = .returned (.int .i64 (rdN most s.data.toList 0)) ∧ Below w.heap.size w w' := by
  obtain ⟨res, hr⟩ : ∃ res, rdN most s.data.toList 0 = res := ⟨_, rfl⟩
  have hr0 : Hid (rdN most (s.data.toList.drop 0) 0 = res) := hr
  rw [hr]
  clear hr
  go_enter Tryd.func69, Tryd.ntmps69
  go_wp2
  go_loopw [5] (fun v wr => ∃ pos n : Nat, wr = w.iter s pos ∧ v = .int .i64 (n : Int) ∧ n ≤ most ∧ Hid (rdN most (s.data.toList.drop pos) n = res)) (fun v wr => s.size - wr.iterPos w.heap.size)
  case atStart => exact ⟨0, 0, rfl, rfl, Nat.zero_le _, hr0⟩
  case round =>
    obtain ⟨pos, n, rfl, rfl, hn, hres⟩ := hrel
    clear hr0
    by_cases hp : pos < s.size
    · have hh := hide ((rdN_drop (most := most) (n := n) hp).symm.trans hres.out)
      obtain ⟨d1, d2⟩ := hd pos hp
      have hnx : ∀ ty, (Instr.next (.pointer (some ⟨w.heap.size, 0, none⟩)) true ty).run Tryd.prog (w.iter s pos) = _ := fun ty => run_next_ascii w s pos ty hp (by omega)
      obtain ⟨D, hD⟩ : ∃ D : Nat, (s[pos]'hp).toNat - 48 = D := ⟨_, rfl⟩
      rw [hD] at hh
      have e1 : IntKind.i32.wrap (((s[pos]'hp).toNat : Int) - 48) = (D : Int) := by
        rw [show ((s[pos]'hp).toNat : Int) - 48 = (D : Int) by omega]
        simp [IntKind.wrap, IntKind.bits]
        omega
      have e2 : IntKind.i64.wrap (D : Int) = (D : Int) := wrap_in _ (by omega) (by omega)
      have e3 : IntKind.i64.wrap (10 * (n : Int)) = 10 * (n : Int) := wrap_in _ (by omega) (by omega)
      obtain ⟨M, hM⟩ : ∃ M : Nat, 10 * n + D = M := ⟨_, rfl⟩
      rw [hM] at hh
      have e4 : IntKind.i64.wrap (10 * (n : Int) + (D : Int)) = (M : Int) := (wrap_in _ (by omega) (by omega)).trans (by omega)
      have g1 : (48 : Int) ≤ ((s[pos]'hp).toNat : Int) := by omega
      have g2 : ((s[pos]'hp).toNat : Int) ≤ 57 := by omega
      clear hd hres d1 d2 hD
      generalize ((s[pos]'hp).toNat : Int) = r at *
      have CD := fun w => cDigit r w
      rw [show (decide (48 ≤ r) && decide (r ≤ 57)) = true by simp; omega] at CD
      clear g1 g2
      by_cases hb : most < M
      · have hq := hide (show res = -1 by rw [← hh.out, if_pos hb])
        have hb' : (most : Int) < (M : Int) := by omega
        clear hh hb hM
        go_wp2_with fail
        refine (CD _).mono ?_
        rintro e w1 ⟨rfl, hw⟩
        subst w1
        go_wp2
        go_ret
        exact ⟨by rw [hq.out]; rfl, balloc _ _⟩
      · have hq := hide (show rdN most (s.data.toList.drop (pos + 1)) M = res by rw [← hh.out, if_neg hb])
        have hb' : ¬ ((most : Int) < (M : Int)) := by omega
        clear hh hM
        go_wp2_with fail
        refine (CD _).mono ?_
        rintro e w1 ⟨rfl, hw⟩
        subst w1
        go_wp2
        go_roundw
        case rel => exact ⟨pos + 1, M, rfl, by go_num, by omega, hq⟩
        case measure => simp; omega
    · have hnx : ∀ ty, (Instr.next (.pointer (some ⟨w.heap.size, 0, none⟩)) true ty).run Tryd.prog (w.iter s pos) = _ := fun ty => run_next_end w s pos ty hp
      have hq := hide (show res = (n : Int) by rw [← hres.out, rdN_end hp])
      clear hres
      go_wp2
      go_ret
      exact ⟨by rw [hq.out]; rfl, balloc _ _⟩
end Go.Proofs.YtnddhpdhbmbikaaDoor
