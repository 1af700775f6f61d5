/- Turn of the model. -/
import Derived.Test.YtfffnekbdegclaaCH
namespace Go.Proofs.Ytfffnekbdegclaa
open Go.RowKit
theorem turn_no {l : List UV} (h : formB l = false) : turnL l = [] := by simp [turnL, h]
theorem turn_yes {l : List UV} (h : formB l = true) : turnL l = turned l := by simp [turnL, h]
theorem flatT_step {l : List UV} {k : Nat} (hk : k < l.length) : flatUs (turned (l.drop k)) = flatUs (turned (l.drop (k + 1))) ++ [.int .i64 (l.getD k UV.zero).i, .int .i64 (l.getD k UV.zero).c, .int .i64 (l.getD k UV.zero).m, .bool (!(l.getD k UV.zero).b)] := by
  rw [turned_step hk, flatUs_app]
  rfl
/-- A list of its own. -/
def AnsU (w : World) (xs : List UV) (e : Ending) (w' : World) : Prop :=
  ∃ v, e = .returned v ∧ w'.ownsRow w.heap.size 34 4 v xs.length (flatUs xs) ∧ Below w.heap.size w w'
theorem AnsU.no {w w' : World} (hb : Below w.heap.size w w') : AnsU w [] (.returned (.slice none 0 0)) w' := ⟨_, rfl, row_nil _ _, hb⟩
theorem AnsU.of {w w1 w' : World} {xs : List UV} {e : Ending} (h : AnsU w1 xs e w') (hb : Below w.heap.size w w1) : AnsU w xs e w' := by
  obtain ⟨v, rfl, ho, hb2⟩ := h
  exact ⟨v, rfl, own_base ho hb.size, btrans hb hb2⟩

set_option maxRecDepth 20000 in
set_option maxHeartbeats 1600000 in
theorem cTurnS (a : Option Addr) (cap : Nat) (l : List UV) (w : World) (he : Us w a l) (hl : l.length ≤ maxLen) :
    Calls Try.prog 35 #[.slice a l.length cap] w (AnsU w (turnL l)) := by
  have CF := cFormS a cap l w he hl
  unfold maxLen at hl
  obtain ⟨i0, hi, hz0, hz1, hz2⟩ := info_parts infoUs
  go_enter Try.func35, Try.ntmps35
  go_wp2_with fail
  refine CF.mono ?_
  rintro e w1 ⟨rfl, hb1⟩
  clear CF
  cases hf : formB l
  · have E := hide (turn_no hf)
    go_wp2
    go_ret
    show AnsU w (turnL l) _ _
    rw [E.out]
    exact AnsU.no hb1
  have h30 := (formB_iff.1 hf).1
  have E := hide (turn_yes hf)
  have he1 := he.below hb1
  have O0 : (w1.alloc (.cells #[] 34)).ownsRow w1.heap.size 34 4 (.slice (some ⟨w1.heap.size, 0, none⟩) 0 0) 0 (flatUs (turned (l.drop l.length))) := by
    rw [List.drop_length]
    exact World.ownsRow_made w1 #[] 0 (Nat.le_refl _) (by unfold maxLen; omega) rfl
  have hb0 := balloc w1 (.cells #[] 34)
  have hw1 : IntKind.i64.wrap ((l.length : Int) - 1) = (l.length : Int) - 1 := wrap_in _ (by omega) (by omega)
  clear he hf
  go_wp2
  go_loopw [3, 4] (fun v i wr => ∃ k m : Nat, m + k = l.length ∧ i = .int .i64 ((k : Int) - 1) ∧ wr.ownsRow w1.heap.size 34 4 v m (flatUs (turned (l.drop k))) ∧ Below w1.heap.size w1 wr) (fun _ i _ => (intOf i + 1).toNat)
  case atStart => exact ⟨l.length, 0, by omega, rfl, O0, hb0⟩
  case round =>
    clear O0 hb0
    obtain ⟨k, m, hkm, rfl, ho, hb⟩ := hrel
    have HK := hide hkm
    cases k with
    | succ j =>
      have ej : (((j + 1 : Nat) : Int) - 1) = (j : Int) := by omega
      rw [ej]
      have hlt : j < l.length := by omega
      clear ej hkm
      have hm : m ≤ 30 := by have := HK.out; omega
      rcases he1 with h | ⟨b1, o1, rfl, q1⟩
      · simp [h] at hlt
      obtain ⟨p0, p1, p2, p3⟩ := q1 j hlt
      replace p0 := ble hb p0
      replace p1 := ble hb p1
      replace p2 := ble hb p2
      replace p3 := ble hb p3
      obtain ⟨va, vc, rfl⟩ := own_form ho
      have S1 := hide (flatT_step hlt)
      clear q1
      generalize l.getD j UV.zero = y at *
      obtain ⟨yi, yc, ym, yb⟩ := y
      dsimp only at *
      have hN := one_block' (wr.alloc (.cells #[.int .i64 yi, .int .i64 yc, .int .i64 ym, .bool (!yb)] 34)) (.cells #[.int .i64 yi, .int .i64 yc, .int .i64 ym, .bool (!yb)] 34)
      have hb6 := btrans (balloc wr (.cells #[.int .i64 yi, .int .i64 yc, .int .i64 ym, .bool (!yb)] 34)) (balloc _ (.cells #[.int .i64 yi, .int .i64 yc, .int .i64 ym, .bool (!yb)] 34))
      have ho6 := own_keep ho hb6
      have hbx := btrans hb hb6
      have hw2 : IntKind.i64.wrap ((j : Int) - 1) = (j : Int) - 1 := wrap_in _ (by omega) (by omega)
      rw [sz1] at hN
      go_wp2_with (at_builtin; refine wpList_append_own _ rfl _ _ 24 rfl w1.heap.size 34 i0 _ 4 32 Try.underlying24 hi hz0 hz1 hz2 rfl (by decide) _ _ _ rfl ho6 ⟨wr.heap.size + 1, 0, none⟩ 1 1 [.int .i64 yi, .int .i64 yc, .int .i64 ym, .bool (!yb)] rfl rfl ?c1 ?c2 ?c3 ?c4 ?c5 ?_)
      case c1 => exact World.news_of_block hN
      case c2 => intro u hu; simp at hu; rcases hu with rfl | rfl | rfl | rfl <;> rfl
      case c3 => unfold maxLen; omega
      case c4 => omega
      case c5 => exact hbx.size
      intro v2 w5 hown hgrow _
      have hb5 := hbx.grown hgrow hbx.size (own_from ho6 (Nat.le_refl _))
      rw [← S1.out] at hown
      clear hgrow hN ho6 hbx S1 hb6 ho
      go_wp2
      go_roundw
      case rel => exact ⟨j, m + 1, by have := HK.out; omega, rfl, hown, hb5⟩
      case measure => simp [intOf]
    | zero =>
      have hm : m = l.length := by omega
      rw [List.drop_zero, hm] at ho
      have e0 : (((0 : Nat) : Int) - 1) = -1 := by omega
      rw [e0]
      obtain ⟨va, vc, rfl⟩ := own_form ho
      clear e0 HK hkm hm he1
      go_wp2
      go_ret
      show AnsU w (turnL l) _ _
      rw [E.out]
      exact ⟨_, rfl, by rw [turned_len]; exact own_base ho hb1.size, btrans hb1 hb⟩
end Go.Proofs.Ytfffnekbdegclaa
