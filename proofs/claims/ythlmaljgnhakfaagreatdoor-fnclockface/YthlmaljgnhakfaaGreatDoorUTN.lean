/- A number read rune by rune: the program's readUpTo. -/
import Derived.Test.YthlmaljgnhakfaaGreatDoorUTF
import Derived.Test.YthlmaljgnhakfaaGreatDoorSPN
import Derived.Test.YthlmaljgnhakfaaGreatDoorC
namespace Go.Proofs.YthlmaljgnhakfaaGreatDoor
open Go.RowKit
theorem valD_mono (l : List UInt8) (k : Nat) : valD (l.take k) ≤ valD l := by
  have hm : ∀ (bs : List UInt8) (x : Nat), x ≤ bs.foldl (fun a c => 10 * a + (c.toNat - 48)) x := by
    intro bs
    induction bs with
    | nil => intro x; simp
    | cons c cs ih => intro x; simp only [List.foldl_cons]; exact Nat.le_trans (by omega) (ih _)
  have e : valD l = (l.drop k).foldl (fun a c => 10 * a + (c.toNat - 48)) (valD (l.take k)) := by
    unfold valD
    rw [← List.foldl_append, List.take_append_drop]
  rw [e]
  exact hm _ _
/-- What the program's number tells: where a number up to most is printed so, it is told. -/
def UpAns (most : Nat) (l : List UInt8) (w : World) (e : Ending) (W : World) : Prop := ∃ r : Int, e = .returned (.int .i64 r) ∧ (∀ n : Nat, n ≤ most → Lib.decDigits n = l → r = n) ∧ Below w.heap.size w W
theorem UpAns.no {most : Nat} {l : List UInt8} {w W : World} (h : ∀ n : Nat, n ≤ most → Lib.decDigits n ≠ l) (hb : Below w.heap.size w W) : UpAns most l w (.returned (.int .i64 (-1))) W := ⟨-1, rfl, fun n hn e => absurd e (h n hn), hb⟩
set_option maxRecDepth 1000000 in
set_option maxHeartbeats 1600000 in
theorem cUpTo (l : List UInt8) (most : Nat) (w : World) (hm : most ≤ 100000) :
    Calls Tryz.prog 36 #[.string ⟨l.toArray⟩, .int .i64 (most : Int)] w (UpAns most l w) := by
  obtain ⟨t, ht⟩ : ∃ t : ByteArray, t = ⟨l.toArray⟩ := ⟨_, rfl⟩
  rw [← ht]
  have hsz : t.size = l.length := by rw [ht]; rfl
  have hix : Hid (∀ k (hk : k < l.length) h, t[k]'h = l[k]) := hide (fun k hk h => by subst ht; rw [indexR l k hk h]; simp [List.getD, hk])
  replace hsz := hide hsz
  clear ht
  go_enter Tryz.func36, Tryz.ntmps36
  go_wp2
  go_loopw [5, 7] (fun v _ wr => ∃ pos n : Nat, wr = w.iter t pos ∧ v = .int .i64 (n : Int) ∧ n ≤ most ∧ pos ≤ l.length ∧ Hid (n = valD (l.take pos))) (fun v _ wr => t.size - wr.iterPos w.heap.size)
  case atStart => exact ⟨0, 0, rfl, rfl, Nat.zero_le _, Nat.zero_le _, hide rfl⟩
  case round =>
    obtain ⟨pos, n, rfl, rfl, hn, hpl, hV⟩ := hrel
    by_cases hp : pos < l.length
    · have hpt : pos < t.size := by have := hsz.out; omega
      have hx := hix.out pos hp hpt
      have hdg : Hid (∀ n : Nat, n ≤ most → Lib.decDigits n = l → 48 ≤ (t[pos]'hpt).toNat ∧ (t[pos]'hpt).toNat ≤ 57) := hide (fun n hn e => by rw [hx]; exact dec_digit n _ (by rw [e]; exact List.getElem_mem hp))
      by_cases ha : (t[pos]'hpt).toNat < 128
      · have hnx : ∀ ty, (Instr.next (.pointer (some ⟨w.heap.size, 0, none⟩)) true ty).run Tryz.prog (w.iter t pos) = _ := fun ty => run_next_ascii w t pos ty hpt ha
        have hvs := hide (valD_take hp hV.out)
        rw [← hx] at hvs
        obtain ⟨C, hC⟩ : ∃ C, (t[pos]'hpt).toNat = C := ⟨_, rfl⟩
        rw [hC] at hvs hdg hnx ha
        clear hV hix hx hC
        have CD := fun w => cDigit (C : Int) w
        by_cases hd : 48 ≤ C ∧ C ≤ 57
        · rw [show inB (C : Int) 48 57 = true from inB_yes (by omega) (by omega)] at CD
          obtain ⟨D, hD⟩ : ∃ D : Nat, C - 48 = D := ⟨_, rfl⟩
          rw [hD] at hvs
          obtain ⟨M, hM⟩ : ∃ M : Nat, 10 * n + D = M := ⟨_, rfl⟩
          rw [hM] at hvs
          have e1 : IntKind.i32.wrap ((C : Int) - 48) = (D : Int) := by
            rw [show (C : Int) - 48 = (D : Int) by omega]
            simp [IntKind.wrap, IntKind.bits]
            omega
          have e2 : IntKind.i64.wrap (D : Int) = (D : Int) := wrap_in _ (by omega) (by omega)
          have e3 : IntKind.i64.wrap (10 * (n : Int)) = 10 * (n : Int) := wrap_in _ (by omega) (by omega)
          have e4 : IntKind.i64.wrap (10 * (n : Int) + (D : Int)) = (M : Int) := (wrap_in _ (by omega) (by omega)).trans (by omega)
          clear hdg hD hd
          by_cases hb : most < M
          · have hno : Hid (∀ n : Nat, n ≤ most → Lib.decDigits n ≠ l) := hide (fun x hx e => by
              have h1 := valD_mono l (pos + 1)
              rw [← e, val_dec, e, ← hvs.out] at h1
              omega)
            have hb' : (most : Int) < (M : Int) := by omega
            clear hb hM hvs
            go_wp2_with fail
            refine (CD _).mono ?_
            rintro e w1 ⟨rfl, hw⟩
            subst w1
            go_wp2
            go_ret
            exact UpAns.no hno.out (balloc _ _)
          · have hb' : ¬ ((most : Int) < (M : Int)) := by omega
            clear hM
            go_wp2_with fail
            refine (CD _).mono ?_
            rintro e w1 ⟨rfl, hw⟩
            subst w1
            go_wp2
            go_roundw
            case rel => exact ⟨pos + 1, M, rfl, by go_num, by omega, by omega, hvs⟩
            case measure => simp; omega
        · rw [show inB (C : Int) 48 57 = false by simp [inB]; omega] at CD
          have hno : Hid (∀ n : Nat, n ≤ most → Lib.decDigits n ≠ l) := hide (fun x hx e => hd (hdg.out x hx e))
          clear hd hdg hvs
          go_wp2_with fail
          refine (CD _).mono ?_
          rintro e w1 ⟨rfl, hw⟩
          subst w1
          go_wp2
          go_ret
          exact UpAns.no hno.out (balloc _ _)
      · have hnx : ∀ ty, (Instr.next (.pointer (some ⟨w.heap.size, 0, none⟩)) true ty).run Tryz.prog (w.iter t pos) = _ := fun ty => run_next_any w t pos ty hpt
        have hh := (decode_high t pos hpt (by omega)).1
        have hno : Hid (∀ n : Nat, n ≤ most → Lib.decDigits n ≠ l) := hide (fun x hx e => by have := hdg.out x hx e; omega)
        have CD := fun w => cDigit ((Utf8.decode t pos).1 : Int) w
        rw [show inB ((Utf8.decode t pos).1 : Int) 48 57 = false by simp [inB]; omega] at CD
        generalize (((Utf8.decode t pos).1 : Nat) : Int) = r at *
        clear hV hix hx hdg ha hh
        go_wp2_with fail
        refine (CD _).mono ?_
        rintro e w1 ⟨rfl, hw⟩
        subst w1
        go_wp2
        go_ret
        exact UpAns.no hno.out (balloc _ _)
    · obtain rfl : l.length = pos := by omega
      have hpt : ¬ l.length < t.size := by have := hsz.out; omega
      have hnx : ∀ ty, (Instr.next (.pointer (some ⟨w.heap.size, 0, none⟩)) true ty).run Tryz.prog (w.iter t l.length) = _ := fun ty => run_next_end w t l.length ty hpt
      have hr : Hid (∀ W, Below w.heap.size w W → UpAns most l w (.returned (.int .i64 (n : Int))) W) := hide (fun W hb => ⟨n, rfl, fun x hx e => by
        have := hV.out
        rw [List.take_length, ← e, val_dec] at this
        rw [this], hb⟩)
      clear hV hix
      go_wp2
      go_ret
      exact hr.out _ (balloc _ _)
end Go.Proofs.YthlmaljgnhakfaaGreatDoor
