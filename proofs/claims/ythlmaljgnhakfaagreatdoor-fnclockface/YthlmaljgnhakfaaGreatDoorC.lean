/- A name's signs: the program ranges over runes, the model over bytes. -/
import Derived.Test.YthlmaljgnhakfaaGreatDoorMA
import Derived.LoopTactic
import Derived.Laws.RangeAny
namespace Go.Proofs.YthlmaljgnhakfaaGreatDoor
open Go.RowKit

set_option maxHeartbeats 400000 in
theorem cSmall (r : Int) (w : World) : Calls Tryz.prog 45 #[.int .i32 r] w fun e w' => e = .returned (.bool (inB r 97 122)) ∧ w' = w := by
  have E : Hid (inB r 97 122 = decide (97 ≤ r ∧ r ≤ 122)) := rfl
  by_cases h1 : 97 ≤ r
  · by_cases h2 : r ≤ 122
    · go_enter Tryz.func45, Tryz.ntmps45
      go_wp2
      go_ret
      exact ⟨ret_bool (by rw [E.out]; symm; simp; omega), rfl⟩
    · go_enter Tryz.func45, Tryz.ntmps45
      go_wp2
      go_ret
      exact ⟨ret_bool (by rw [E.out]; symm; simp; omega), rfl⟩
  · go_enter Tryz.func45, Tryz.ntmps45
    go_wp2
    go_ret
    exact ⟨ret_bool (by rw [E.out]; symm; simp; omega), rfl⟩
set_option maxHeartbeats 400000 in
theorem cDigit (r : Int) (w : World) : Calls Tryz.prog 46 #[.int .i32 r] w fun e w' => e = .returned (.bool (inB r 48 57)) ∧ w' = w := by
  have E : Hid (inB r 48 57 = decide (48 ≤ r ∧ r ≤ 57)) := rfl
  by_cases h1 : 48 ≤ r
  · by_cases h2 : r ≤ 57
    · go_enter Tryz.func46, Tryz.ntmps46
      go_wp2
      go_ret
      exact ⟨ret_bool (by rw [E.out]; symm; simp; omega), rfl⟩
    · go_enter Tryz.func46, Tryz.ntmps46
      go_wp2
      go_ret
      exact ⟨ret_bool (by rw [E.out]; symm; simp; omega), rfl⟩
  · go_enter Tryz.func46, Tryz.ntmps46
    go_wp2
    go_ret
    exact ⟨ret_bool (by rw [E.out]; symm; simp; omega), rfl⟩
theorem bdrop {s : ByteArray} {k : Nat} (hk : k < s.size) : (s.data.toList.drop k).all okB = (okB (s[k]'hk) && (s.data.toList.drop (k + 1)).all okB) := by
  rw [all_drop (P := okB) (by rw [size_list]; exact hk), get_list]
theorem bend {s : ByteArray} {k : Nat} (hk : ¬ k < s.size) : (s.data.toList.drop k).all okB = true := by
  rw [List.drop_eq_nil_of_le (by rw [size_list]; omega)]; rfl

set_option maxRecDepth 1000000 in
set_option maxHeartbeats 800000 in
theorem cNameI (s : ByteArray) (w : World) :
    Calls Tryz.prog 29 #[.string s] w fun e w' => e = .returned (.bool (nameB s)) ∧ Below w.heap.size w w' := by
  have E : Hid (nameB s = (s.data.toList.all okB && inB s.size 1 12)) := rfl
  generalize hr : s.data.toList.all okB = res
  have hr0 : Hid ((s.data.toList.drop 0).all okB = res) := hr
  rw [hr] at E
  clear hr
  go_enter Tryz.func29, Tryz.ntmps29
  go_wp2
  go_loopw [] (fun wr => ∃ pos : Nat, wr = w.iter s pos ∧ Hid ((s.data.toList.drop pos).all okB = res)) (fun wr => s.size - wr.iterPos w.heap.size)
  case atStart => exact ⟨0, rfl, hr0⟩
  case round =>
    obtain ⟨pos, rfl, hres⟩ := hrel
    clear hr0
    by_cases hp : pos < s.size
    · have hd := hide ((bdrop hp).symm.trans hres.out)
      by_cases ha : (s[pos]'hp).toNat < 128
      · have hnx : ∀ ty, (Instr.next (.pointer (some ⟨w.heap.size, 0, none⟩)) true ty).run Tryz.prog (w.iter s pos) = _ := fun ty => run_next_ascii w s pos ty hp ha
        have hok : Hid (okB (s[pos]'hp) = (inB ((s[pos]'hp).toNat : Int) 97 122 || inB ((s[pos]'hp).toNat : Int) 48 57)) := rfl
        generalize ((s[pos]'hp).toNat : Int) = r at *
        generalize okB (s[pos]'hp) = q at *
        clear hres
        go_wp2_with fail
        refine (cSmall r _).mono ?_
        rintro e w1 ⟨rfl, hw⟩
        subst w1
        cases g1 : inB r 97 122
        · rw [g1] at hok
          go_wp2_with fail
          refine (cDigit r _).mono ?_
          rintro e w1 ⟨rfl, hw⟩
          subst w1
          cases g2 : inB r 48 57
          · rw [g2] at hok
            have hq := hide (show nameB s = false by rw [E.out, ← hd.out, hok.out]; rfl)
            clear hd hok E g1 g2
            go_wp2
            go_ret
            exact ⟨ret_bool hq.out.symm, balloc _ _⟩
          · rw [g2] at hok
            have hn := hide (show (s.data.toList.drop (pos + 1)).all okB = res by rw [← hd.out, hok.out]; rfl)
            clear hd hok g1 g2
            go_wp2
            go_roundw
            case rel => exact ⟨pos + 1, rfl, hn⟩
            case measure => simp; omega
        · rw [g1] at hok
          have hn := hide (show (s.data.toList.drop (pos + 1)).all okB = res by rw [← hd.out, hok.out]; rfl)
          clear hd hok g1
          go_wp2
          go_roundw
          case rel => exact ⟨pos + 1, rfl, hn⟩
          case measure => simp; omega
      · have hnx : ∀ ty, (Instr.next (.pointer (some ⟨w.heap.size, 0, none⟩)) true ty).run Tryz.prog (w.iter s pos) = _ := fun ty => run_next_any w s pos ty hp
        have hh := (decode_high s pos hp (by omega)).1
        have hk := okB_high (b := s[pos]'hp) (by omega)
        rw [hk] at hd
        have hq := hide (show nameB s = false by rw [E.out, ← hd.out]; rfl)
        have g1 : inB ((Utf8.decode s pos).1 : Int) 97 122 = false := by simp [inB]; omega
        have g2 : inB ((Utf8.decode s pos).1 : Int) 48 57 = false := by simp [inB]; omega
        generalize (((Utf8.decode s pos).1 : Nat) : Int) = r at *
        clear hres hd hk hh ha E
        go_wp2_with fail
        refine (cSmall r _).mono ?_
        rintro e w1 ⟨rfl, hw⟩
        subst w1
        rw [g1]
        go_wp2_with fail
        refine (cDigit r _).mono ?_
        rintro e w1 ⟨rfl, hw⟩
        subst w1
        rw [g2]
        clear g1 g2
        go_wp2
        go_ret
        exact ⟨ret_bool hq.out.symm, balloc _ _⟩
    · have hnx : ∀ ty, (Instr.next (.pointer (some ⟨w.heap.size, 0, none⟩)) true ty).run Tryz.prog (w.iter s pos) = _ := fun ty => run_next_end w s pos ty hp
      have hq := hide (show nameB s = inB s.size 1 12 by rw [E.out, ← hres.out, bend hp]; rfl)
      clear hres E
      go_wp2_with fail
      refine (cWithin s.size 1 12 _).mono ?_
      rintro e w1 ⟨rfl, hw⟩
      subst w1
      go_wp2
      go_ret
      exact ⟨ret_bool hq.out.symm, balloc _ _⟩

end Go.Proofs.YthlmaljgnhakfaaGreatDoor
