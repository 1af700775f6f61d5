/- The library's Cut and Atoi as the program calls them. -/
import Derived.Test.YthlmaljgnhakfaaGreatDoorRT1
import Derived.Test.YthlmaljgnhakfaaGreatDoorShelfb
import Derived.Deep.QuietTactic
import Derived.BigQuiet
namespace Go.Proofs.YthlmaljgnhakfaaGreatDoor
open Go.RowKit

/-- The library's two error variables hold something that is not nil. -/
def Errs (w : World) : Prop := (∃ t p, w.cell? ⟨2, 0, none⟩ = some (.iface t p)) ∧ ∃ t p, w.cell? ⟨3, 0, none⟩ = some (.iface t p)
theorem Errs.below {w w' : World} (h : Errs w) (hb : Below w.heap.size w w') : Errs w' := by
  obtain ⟨⟨t, p, h1⟩, t', p', h2⟩ := h
  exact ⟨⟨t, p, (hb.cell (cell_lt h1)).trans h1⟩, t', p', (hb.cell (cell_lt h2)).trans h2⟩

theorem bbytes (w : World) (t : ByteArray) : Below w.heap.size w (Lib.bytesWorld w 5 t) := Go.Joins.below_bytesWorld _ w 5 t (Nat.le_refl _)

theorem cAtoi (l : List UInt8) (w : World) (he : Errs w) (hl : l.length ≤ 1048576) : Calls Tryz.prog 52 #[S l] w fun e w' =>
    ((∃ v, Lib.atoiAll l = .ok v ∧ e = .returned (.tuple #[.int .i64 v, .nilIface])) ∨ ((∀ v, Lib.atoiAll l ≠ .ok v) ∧ ∃ v N, e = .returned (.tuple #[.int .i64 v, .iface 128 (.pointer (some ⟨N, 0, none⟩))]))) ∧ Below w.heap.size w w' := by
  have hsz : (⟨l.toArray⟩ : ByteArray).size = l.length := by simp [ByteArray.size]
  have hdl : (⟨l.toArray⟩ : ByteArray).data.toList = l := by simp
  obtain ⟨⟨t1, p1, h1⟩, t2, p2, h2⟩ := he
  cases h : Lib.atoiAll l with
  | ok v =>
    refine (Any.strconv_Atoi_ok Tryz.laysAtoi ⟨l.toArray⟩ (by rw [hsz]; omega) v (by rw [hdl]; exact h) w).mono ?_
    rintro e w' ⟨rfl, hw⟩
    refine ⟨.inl ⟨v, rfl, rfl⟩, ?_⟩
    rcases hw with rfl | ⟨t, rfl⟩
    · exact Below.refl _ _
    · exact bbytes w t
  | range =>
    refine (Any.strconv_Atoi_range Tryz.laysAtoi ⟨l.toArray⟩ (by rw [hsz]; omega) (by rw [hdl]; exact h) _ w h2 (.inr ⟨_, _, rfl⟩)).mono ?_
    rintro e w' ⟨N, rfl, _, _, hb⟩
    exact ⟨.inr ⟨fun v e => (by cases e), _, _, rfl⟩, hb⟩
  | _ =>
    refine (Any.strconv_Atoi_syntax Tryz.laysAtoi ⟨l.toArray⟩ (by rw [hsz]; omega) (by rw [hdl]; exact h) _ w h1 (.inr ⟨_, _, rfl⟩)).mono ?_
    rintro e w' ⟨N, rfl, _, _, hb⟩
    exact ⟨.inr ⟨fun v e => (by cases e), _, _, rfl⟩, hb⟩

theorem cIndex (l : List UInt8) (w : World) : Calls Tryz.prog 85 #[S l, .string ⟨#[58]⟩] w fun e w' => e = .returned (.int .i64 (Lib.indexByte l 58)) ∧ w' = w :=
  Any.stringslite_Index_one Tryz.laysIndex ⟨l.toArray⟩ 58 w

theorem index_cases (l : List UInt8) : Lib.indexByte l 58 = -1 ∨ ∃ i : Nat, Lib.indexByte l 58 = i ∧ i < l.length := by
  induction l with
  | nil => left; rfl
  | cons b l ih =>
    by_cases hb : (b == 58) = true
    · right; exact ⟨0, by simp [Lib.indexByte, hb], by simp⟩
    · simp only [Bool.not_eq_true] at hb
      rcases ih with h | ⟨i, h, hi⟩
      · left; simp [Lib.indexByte, hb, h]
      · right
        have e : ((i : Int) == -1) = false := by simp
        exact ⟨i + 1, by simp [Lib.indexByte, hb, h, e], by simp; omega⟩

/-- What Cut at a colon answers. -/
def cutL (l : List UInt8) : List UInt8 × List UInt8 × Bool :=
  if 0 ≤ Lib.indexByte l 58 then (l.take (Lib.indexByte l 58).toNat, l.drop ((Lib.indexByte l 58).toNat + 1), true) else (l, [], false)

theorem ext_take (l : List UInt8) (i : Nat) : (⟨l.toArray⟩ : ByteArray).extract 0 i = ⟨(l.take i).toArray⟩ := by
  apply ByteArray.ext
  simp
theorem ext_drop (l : List UInt8) (i : Nat) : (⟨l.toArray⟩ : ByteArray).extract i l.length = ⟨(l.drop i).toArray⟩ := by
  apply ByteArray.ext
  simp
  exact List.take_of_length_le (by simp)
theorem tuple3 {a b a' b' c : Value} (h1 : a = a') (h2 : b = b') : Ending.returned (.tuple #[a, b, c]) = .returned (.tuple #[a', b', c]) := by rw [h1, h2]

set_option maxHeartbeats 800000 in
theorem cSCut (l : List UInt8) (w : World) (hl : l.length ≤ 1048576) : Calls Tryz.prog 71 #[S l, .string ⟨#[58]⟩] w fun e w' => e = .returned (.tuple #[S (cutL l).1, S (cutL l).2.1, .bool (cutL l).2.2]) ∧ ∃ q, w' = w.drewN q := by
  rcases index_cases l with h | ⟨i, h, hi⟩
  · have R := hide (show cutL l = (l, [], false) by unfold cutL; rw [h]; rfl)
    go_enter Tryz.func71, Tryz.ntmps71
    go_wp2_with (go_at_call 85; refine (cIndex l _).mono ?_; rintro e w' ⟨rfl, rfl⟩)
    go_ret3
    exact ⟨by rw [R.out]; rfl, 0, rfl⟩
  · have R := hide (show cutL l = (l.take i, l.drop (i + 1), true) by unfold cutL; rw [h, if_pos (by omega)]; rfl)
    have hsz : (⟨l.toArray⟩ : ByteArray).size = l.length := by simp [ByteArray.size]
    go_enter Tryz.func71, Tryz.ntmps71
    go_wp2_with (go_at_call 85; refine (cIndex l _).mono ?_; rintro e w' ⟨rfl, rfl⟩)
    go_quiet (fail)
    go_wp2
    go_ret3
    refine ⟨?_, _, rfl⟩
    rw [R.out]
    exact tuple3 (congrArg Value.string (ext_take l i)) (congrArg Value.string (ext_drop l (i + 1)))

set_option maxHeartbeats 800000 in
theorem cCut (l : List UInt8) (w : World) (hl : l.length ≤ 1048576) : Calls Tryz.prog 51 #[S l, .string ⟨#[58]⟩] w fun e w' => e = .returned (.tuple #[S (cutL l).1, S (cutL l).2.1, .bool (cutL l).2.2]) ∧ ∃ q, w' = w.drewN q := by
  go_enter Tryz.func51, Tryz.ntmps51
  go_wp2_with (go_at_call 71; refine (cSCut l _ hl).mono ?_; rintro e w' ⟨rfl, q, rfl⟩)
  go_ret3
  exact ⟨rfl, _, rfl⟩

theorem cut_len (l : List UInt8) (hl : l.length ≤ 1048576) : (cutL l).1.length ≤ 1048576 ∧ (cutL l).2.1.length ≤ 1048576 := by
  unfold cutL
  split <;> simp <;> omega

/-- A text that was printed is cut into its hours and its minutes, and both are numbers. -/
theorem printed (l : List UInt8) (n : Nat) (hn : n ≤ 100000) (h : l = ttL n) : Lib.atoiAll (cutL l).1 = .ok ((n / 60 : Nat) : Int) ∧ Lib.atoiAll (cutL l).2.1 = .ok ((n % 60 : Nat) : Int) := by
  obtain ⟨h1, h2, h3⟩ := ttL_cut n hn
  have e : cutL l = (tw4 (n / 60), tw4 (n % 60), true) := by
    unfold cutL
    rw [h, h1, if_pos (by omega), Int.toNat_natCast, h2, h3]
  rw [e]
  exact ⟨tw4_atoi ⟨n / 60, by omega⟩, tw4_atoi ⟨n % 60, by omega⟩⟩

/-- Where one of the tests fails nothing was printed so. -/
theorem no_hours (l : List UInt8) (h : ∀ v, Lib.atoiAll (cutL l).1 = .ok v → ¬ (0 ≤ v ∧ v ≤ 1666)) : readB l = -1 :=
  readB_no l fun n hn e => h _ (printed l n hn e).1 (by omega)
theorem no_minutes (l : List UInt8) (h : ∀ v, Lib.atoiAll (cutL l).2.1 = .ok v → ¬ (0 ≤ v ∧ v < 60)) : readB l = -1 :=
  readB_no l fun n hn e => h _ (printed l n hn e).2 (by omega)
theorem no_same (l : List UInt8) (h m : Int) (h1 : Lib.atoiAll (cutL l).1 = .ok h) (h2 : Lib.atoiAll (cutL l).2.1 = .ok m) (hne : tt (h * 60 + m) ≠ l) : readB l = -1 :=
  readB_no l fun n hn e => by
    obtain ⟨p1, p2⟩ := printed l n hn e
    rw [h1] at p1; rw [h2] at p2
    cases p1; cases p2
    apply hne
    rw [show (((n / 60 : Nat) : Int) * 60 + ((n % 60 : Nat) : Int)) = (n : Int) by omega, tt_nat n hn, e]
theorem cut_ne (l : List UInt8) (v : Int) (h : Lib.atoiAll (cutL l).1 = .ok v) : l ≠ [] := by
  intro e; subst e
  have : cutL [] = ([], [], false) := rfl
  rw [this] at h
  cases h
end Go.Proofs.YthlmaljgnhakfaaGreatDoor
