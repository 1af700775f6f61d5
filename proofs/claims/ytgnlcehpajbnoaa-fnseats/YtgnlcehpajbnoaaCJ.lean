/- The program: TrainOk, FreeSeats, Hole, Book, Unbook. -/
import Derived.Test.YtgnlcehpajbnoaaCI
import Derived.Deep.RegionHeld3
namespace Go.Proofs.Ytgnlcehpajbnoaa
open Go.RowKit Go.Lib
theorem trainB_N {S P : Int} {hs : List BkV} (h : trainB S P hs = true) : ((S.toNat : Nat) : Int) = S ∧ Tr ((S.toNat : Nat) : Int) P hs := by
  have := trainB_iff.1 h
  have e : ((S.toNat : Nat) : Int) = S := by have := this.s1; omega
  exact ⟨e, by rw [e]; exact this⟩

set_option maxHeartbeats 800000 in
theorem cTrainI (S P : Int) (a : Option Addr) (c : Nat) (hs : List BkV) (w : World) (hz : Bks w a hs) (hl : hs.length ≤ 1048576) :
    Calls Try.prog 15 #[.agg #[.int .i64 S, .int .i64 P, .slice a hs.length c]] w fun e w' => e = .returned (.bool (trainB S P hs)) ∧ Below w.heap.size w w' := by
  have hW := balloc w (.cells #[.int .i64 S, .int .i64 P, .slice a hs.length c] 26)
  have C := cBookOf S P a c hs _ (hz.below hW) hl
  go_enter Try.func15, Try.ntmps15
  go_wp2_with fail
  refine C.mono ?_
  rintro e w1 ⟨b, gh, rfl, -, hb, -⟩
  replace hb := btrans hW hb
  clear C
  go_wp2
  go_ret
  exact ⟨rfl, hb⟩

set_option maxHeartbeats 800000 in
theorem cFreeI (S P : Int) (a : Option Addr) (c : Nat) (hs : List BkV) (on off : Int) (w : World) (hz : Bks w a hs) (hl : hs.length ≤ 1048576) :
    Calls Try.prog 16 #[.agg #[.int .i64 S, .int .i64 P, .slice a hs.length c], .int .i64 on, .int .i64 off] w fun e w' => ∃ v, e = .returned v ∧ w'.ownsRow w.heap.size 3 1 v (freeL S P hs on off).length ((freeL S P hs on off).map (Value.int .i64)) ∧ Below w.heap.size w w' := by
  have hW := balloc w (.cells #[.int .i64 S, .int .i64 P, .slice a hs.length c] 26)
  have C := cBookOf S P a c hs _ (hz.below hW) hl
  have E : Hid (freeL S P hs on off = if trainB S P hs && askB P on off then freeK hs on off S.toNat else []) := hide rfl
  generalize freeL S P hs on off = L at *
  go_enter Try.func16, Try.ntmps16
  go_wp2_with fail
  refine C.mono ?_
  rintro e w1 ⟨b, gh, rfl, -, hb, hbk⟩
  replace hb := btrans hW hb
  clear C
  cases ht : trainB S P hs
  · rw [ht] at E
    clear hbk
    have hL : L = [] := E.out
    subst hL
    go_wp2
    go_ret
    exact ⟨_, rfl, World.ownsRow_nil _ _ _ _, hb⟩
  · obtain ⟨gs, HB⟩ := hbk ht
    obtain ⟨eN, hT⟩ := trainB_N ht
    have C2 := cFs _ b S.toNat P gh hs.length hs gs hs on off w1 HB (by have := hT.s2; omega) hT.p2
    have hL : Hid (L = fsL S.toNat P hs on off) := hide (by rw [E.out, ht]; rfl)
    clear hbk HB
    go_wp2_with fail
    refine C2.mono ?_
    rintro e w2 ⟨v, rfl, ho, hb2⟩
    rw [← hL.out] at ho
    have hb3 := btrans hb hb2
    have ho2 := Go.Joins.ownsRow_le ho (base' := w.heap.size) hb.size
    obtain ⟨va, vc, rfl⟩ := own_form ho2
    clear C2 ho hL hb2
    go_wp2
    go_ret
    exact ⟨_, rfl, ho2, hb3⟩

set_option maxHeartbeats 800000 in
theorem cIndex (a : Option Addr) (c : Nat) (zs : List Int) (x : Int) (w : World) (hz : Ints w a zs) (hl : zs.length ≤ 1048576) :
    Calls Try.prog 82 #[.slice a zs.length c, .int .i64 x] w fun e w' => ∃ r : Int, e = .returned (.int .i64 r) ∧ (0 ≤ r ↔ x ∈ zs) ∧ w' = w := by
  have hyes := fun (k : Nat) (hk : k < zs.length) (h : zs.getD k 0 = x) => hide (show x ∈ zs by
    rw [← h]; simp only [List.getD, hk, List.getElem?_eq_getElem, Option.getD_some]; exact List.getElem_mem hk)
  have hno := fun (h : ∀ j, j < zs.length → zs.getD j 0 ≠ x) => hide (show ¬ x ∈ zs from fun hc => by
    obtain ⟨j, hj, he⟩ := List.getElem_of_mem hc
    exact absurd (by simp [List.getD, hj, he]) (h j hj))
  go_enter Try.func82, Try.ntmps82
  go_wp2
  go_loop [8] (fun i => ∃ k : Nat, k ≤ zs.length ∧ i = .int .i64 k ∧ Hid (∀ j, j < k → zs.getD j 0 ≠ x)) (fun i => zs.length - (intOf i).toNat)
  case atStart => exact ⟨0, Nat.zero_le _, rfl, hide (fun j hj => by omega)⟩
  case round =>
    obtain ⟨k, hk, rfl, hN⟩ := hrel
    by_cases hlt : k < zs.length
    · have hy := hyes k hlt
      rcases hz with h | ⟨b, off, rfl, hc⟩
      · simp [h] at hlt
      have hck := hc k hlt
      have hN2 := fun (h : zs.getD k 0 ≠ x) => hide (fun j (hj : j < k + 1) => if e : j = k then by subst e; exact h else hN.out j (by omega))
      clear hc hyes hno
      generalize zs.getD k 0 = z at *
      by_cases he : z = x
      · have hr := hy he
        subst he
        clear hN2 hy
        go_wp2
        go_ret
        exact ⟨k, rfl, ⟨fun _ => hr.out, fun _ => by omega⟩, rfl⟩
      · have hn := hN2 he
        have he' : (x == z) = false := by simp; omega
        clear hN2 hy
        go_wp2
        go_round
        case rel => exact ⟨k + 1, by omega, by go_num, hn⟩
        case measure => simp [intOf]; omega
    · have hr := hno (fun j hj => hN.out j (by omega))
      clear hz hyes hno
      go_wp2
      go_ret
      exact ⟨-1, rfl, ⟨fun h => by omega, fun h => absurd h hr.out⟩, rfl⟩

set_option maxHeartbeats 400000 in
theorem cHas (a : Option Addr) (c : Nat) (zs : List Int) (x : Int) (w : World) (hz : Ints w a zs) (hl : zs.length ≤ 1048576) :
    Calls Try.prog 53 #[.slice a zs.length c, .int .i64 x] w fun e w' => e = .returned (.bool (zs.contains x)) ∧ w' = w := by
  go_enter Try.func53, Try.ntmps53
  go_wp2_with fail
  refine (cIndex a c zs x w hz hl).mono ?_
  rintro e w1 ⟨r, rfl, hr, rfl⟩
  replace hr := hide hr
  clear hz
  go_wp2
  go_ret
  exact ⟨ret_bool (by rw [Bool.eq_iff_iff, decide_eq_true_eq, hr.out, List.contains_iff_mem]), rfl⟩

set_option maxRecDepth 20000 in
set_option maxHeartbeats 1600000 in
theorem cHoleI (S P : Int) (a : Option Addr) (c : Nat) (hs : List BkV) (s on off : Int) (w : World) (hz : Bks w a hs) (hl : hs.length ≤ 1048576) :
    Calls Try.prog 21 #[.agg #[.int .i64 S, .int .i64 P, .slice a hs.length c], .int .i64 s, .int .i64 on, .int .i64 off] w fun e w' => e = .returned (.int .i64 (holeF S P hs s on off)) ∧ Below w.heap.size w w' := by
  have hW := balloc w (.cells #[.int .i64 S, .int .i64 P, .slice a hs.length c] 26)
  have C := cBookOf S P a c hs _ (hz.below hW) hl
  have E : Hid (holeF S P hs s on off = if trainB S P hs && askB P on off && (freeK hs on off S.toNat).contains s then holeV hs P on off s else 0) := hide rfl
  generalize holeF S P hs s on off = R at *
  go_enter Try.func21, Try.ntmps21
  go_wp2_with fail
  refine C.mono ?_
  rintro e w1 ⟨b, gh, rfl, -, hb, hbk⟩
  replace hb := btrans hW hb
  clear C
  cases ht : trainB S P hs
  · rw [ht] at E
    clear hbk
    have hR : R = 0 := E.out
    subst hR
    go_wp2
    go_ret
    exact ⟨rfl, hb⟩
  obtain ⟨gs, HB⟩ := hbk ht
  obtain ⟨eN, hT⟩ := trainB_N ht
  have hp11 := hT.p2
  have C2 := cFs _ b S.toNat P gh hs.length hs gs hs on off w1 HB (by have := hT.s2; omega) hT.p2
  have hLl := fsL_len S.toNat P hs on off
  have hM := hide (fsL_mem (N := S.toNat) (P := P) (ds := hs) (on := on) (off := off) (x := s))
  have hE2 : Hid (R = if (fsL S.toNat P hs on off).contains s then holeV hs P on off s else 0) := hide (by
    rw [E.out, ht]
    unfold fsL
    cases askB P on off <;> rfl)
  have h60 : S.toNat ≤ 60 := by have := hT.s2; omega
  clear hbk E
  generalize fsL S.toNat P hs on off = L at *
  go_wp2_with fail
  refine C2.mono ?_
  rintro e w2 ⟨v, rfl, ho, hb2⟩
  have H2 := HB.below hb2
  replace hb := btrans hb hb2
  obtain ⟨va, vc, rfl⟩ := own_form ho
  have C3 := cHas va vc L s w2 (Ints.own ho rfl) (by omega)
  clear C2 ho hb2 HB
  go_wp2_with fail
  refine C3.mono ?_
  rintro e w3 ⟨rfl, rfl⟩
  clear C3
  cases hc : L.contains s
  · rw [hc] at hE2
    have hR : R = 0 := hE2.out
    subst hR
    go_wp2
    go_ret
    exact ⟨rfl, hb⟩
  · rw [hc] at hE2
    have hR : Hid (R = holeV hs P on off s) := hide hE2.out
    clear hE2
    obtain ⟨m1, m2, m3⟩ := hM.out (by simpa using hc)
    obtain ⟨a0, a1, a2⟩ := askB_iff.1 m1
    obtain ⟨s, rfl⟩ : ∃ n : Nat, s = n := ⟨s.toNat, by omega⟩
    obtain ⟨on, rfl⟩ : ∃ n : Nat, on = n := ⟨on.toNat, by omega⟩
    obtain ⟨off, rfl⟩ : ∃ n : Nat, off = n := ⟨off.toNat, by omega⟩
    have C4 := cHole _ b S.toNat P gh hs.length hs gs hs s on off w3 H2 hp11 (by omega) (by omega) a2
    clear hM hc
    go_wp2_with fail
    refine C4.mono ?_
    rintro e w4 ⟨rfl, hb4⟩
    replace hb := btrans hb hb4
    clear C4
    go_wp2
    go_ret
    exact ⟨ret_int hR.out.symm, hb⟩
end Go.Proofs.Ytgnlcehpajbnoaa
