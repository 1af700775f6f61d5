/- The code of a ruled shift: the program's table of method values. -/
import Derived.Test.YtdmdoknkkfhheaaCE
import Derived.Laws.EntriesVeiled
namespace Go.Proofs.Ytdmdoknkkfhheaa
open Go.RowKit

theorem codeV_0 {r : RuleV} {s : List TaskV} (h : ordB s = false) : codeV r s = 2 := by simp [codeV, h]
theorem codeV_1 {r : RuleV} {s : List TaskV} (h : ordB s = true) (h1 : r.p < spd s) : codeV r s = 3 := by simp [codeV, h, h1]
theorem codeV_2 {r : RuleV} {s : List TaskV} (h : ordB s = true) (h1 : ¬ r.p < spd s) (h2 : r.d < drv s) : codeV r s = 4 := by simp [codeV, h, h1, h2]
theorem codeV_3 {r : RuleV} {s : List TaskV} (h : ordB s = true) (h1 : ¬ r.p < spd s) (h2 : ¬ r.d < drv s) (h3 : r.s < strV r.r s) : codeV r s = 5 := by simp [codeV, h, h1, h2, h3]
theorem codeV_4 {r : RuleV} {s : List TaskV} (h : ordB s = true) (h1 : ¬ r.p < spd s) (h2 : ¬ r.d < drv s) (h3 : ¬ r.s < strV r.r s) : codeV r s = 0 := by simp [codeV, h, h1, h2, h3]
/-- What the first k tests told. -/
def Past (r : RuleV) (s : List TaskV) (k : Nat) : Prop := (1 ≤ k → ordB s = true) ∧ (2 ≤ k → ¬ r.p < spd s) ∧ (3 ≤ k → ¬ r.d < drv s) ∧ (4 ≤ k → ¬ r.s < strV r.r s)

set_option maxRecDepth 20000 in
set_option maxHeartbeats 3200000 in
theorem cCode (a : Option Addr) (cap : Nat) (s : List TaskV) (r : RuleV) (w : World) (hz : Tasks w a s) (hs : s.all taskB = true) (h0 : 0 < s.length) (hl : s.length ≤ 40) :
    Calls Try.prog 44 #[rsv a s.length cap r] w fun e w' => e = .returned (.int .i64 (codeV r s)) ∧ Below w.heap.size w w' := by
  have hmf : ∀ (fn : Fn) (first cap : Array Value) (w : World), (Instr.makeFunc fn first cap).run Try.prog w = .ok (.func fn first cap) w := fun _ _ _ _ => rfl
  have hW := balloc w (rsc a s.length cap r)
  have C0 := fun w hz => cOut a cap s r w hz hs hl
  have C1 := fun w hz => cTooS a cap s r w hz hs h0 hl
  have C2 := fun w hz => cTooD a cap s r w hz hs hl
  have C3 := fun w hz => cTooT a cap s r w hz hs hl
  have K0 := hide (fun h => codeV_0 (r := r) (s := s) h)
  have K1 := hide (fun h h1 => codeV_1 (r := r) (s := s) h h1)
  have K2 := hide (fun h h1 h2 => codeV_2 (r := r) (s := s) h h1 h2)
  have K3 := hide (fun h h1 h2 h3 => codeV_3 (r := r) (s := s) h h1 h2 h3)
  have K4 := hide (fun h h1 h2 h3 => codeV_4 (r := r) (s := s) h h1 h2 h3)
  have P0 : Hid (Past r s 0) := hide ⟨fun h => by omega, fun h => by omega, fun h => by omega, fun h => by omega⟩
  have P1 : Hid (ordB s = true → Past r s 1) := hide (fun g => ⟨fun _ => g, fun h => by omega, fun h => by omega, fun h => by omega⟩)
  have P2 : Hid (Past r s 1 → ¬ r.p < spd s → Past r s 2) := hide (fun p g => ⟨fun _ => p.1 (by omega), fun _ => g, fun h => by omega, fun h => by omega⟩)
  have P3 : Hid (Past r s 2 → ¬ r.d < drv s → Past r s 3) := hide (fun p g => ⟨fun _ => p.1 (by omega), fun _ => p.2.1 (by omega), fun _ => g, fun h => by omega⟩)
  have P4 : Hid (Past r s 3 → ¬ r.s < strV r.r s → Past r s 4) := hide (fun p g => ⟨fun _ => p.1 (by omega), fun _ => p.2.1 (by omega), fun _ => p.2.2.1 (by omega), fun _ => g⟩)
  generalize codeV r s = res at *
  unfold rsc at hW
  unfold rsv at *
  obtain ⟨rp, rd, rr, rs⟩ := r
  dsimp only at *
  have hA := balloc (w.alloc (.cells #[.slice a s.length cap, .int .i64 rp, .int .i64 rd, .int .i64 rr, .int .i64 rs] 74)) (.cells #[.func (.func 60) #[.agg #[.slice a s.length cap, .int .i64 rp, .int .i64 rd, .int .i64 rr, .int .i64 rs]] #[], .int .i64 2, .func (.func 61) #[.agg #[.slice a s.length cap, .int .i64 rp, .int .i64 rd, .int .i64 rr, .int .i64 rs]] #[], .int .i64 3, .func (.func 62) #[.agg #[.slice a s.length cap, .int .i64 rp, .int .i64 rd, .int .i64 rr, .int .i64 rs]] #[], .int .i64 4, .func (.func 63) #[.agg #[.slice a s.length cap, .int .i64 rp, .int .i64 rd, .int .i64 rr, .int .i64 rs]] #[], .int .i64 5] 89)
  have hX := one_block (w.alloc (.cells #[.slice a s.length cap, .int .i64 rp, .int .i64 rd, .int .i64 rr, .int .i64 rs] 74)) (.cells #[.func (.func 60) #[.agg #[.slice a s.length cap, .int .i64 rp, .int .i64 rd, .int .i64 rr, .int .i64 rs]] #[], .int .i64 2, .func (.func 61) #[.agg #[.slice a s.length cap, .int .i64 rp, .int .i64 rd, .int .i64 rr, .int .i64 rs]] #[], .int .i64 3, .func (.func 62) #[.agg #[.slice a s.length cap, .int .i64 rp, .int .i64 rd, .int .i64 rr, .int .i64 rs]] #[], .int .i64 4, .func (.func 63) #[.agg #[.slice a s.length cap, .int .i64 rp, .int .i64 rd, .int .i64 rr, .int .i64 rs]] #[], .int .i64 5] 89)
  rw [sz1] at hX
  have hzW := hz.below (btrans hW hA)
  replace hW := btrans hW hA
  have c0 := blk_cell hX 0
  have c1 := blk_cell hX 1
  have c2 := blk_cell hX 2
  have c3 := blk_cell hX 3
  have c4 := blk_cell hX 4
  have c5 := blk_cell hX 5
  have c6 := blk_cell hX 6
  have c7 := blk_cell hX 7
  simp only [List.getElem?_toArray, List.getElem?_cons_zero, List.getElem?_cons_succ] at c0 c1 c2 c3 c4 c5 c6 c7
  clear hA hX hz
  go_enter Try.func44, Try.ntmps44
  go_wp2
  generalize ((w.alloc _).alloc _) = W at *
  generalize Value.agg #[Value.slice a s.length cap, Value.int IntKind.i64 rp, Value.int IntKind.i64 rd, Value.int IntKind.i64 rr, Value.int IntKind.i64 rs] = V at *
  go_loopw [21] (fun i wr => ∃ k : Nat, k ≤ 4 ∧ i = .int .i64 k ∧ Hid (Past ⟨rp, rd, rr, rs⟩ s k) ∧ Below W.heap.size W wr) (fun i _ => 4 - (intOf i).toNat)
  case atStart => exact ⟨0, by omega, rfl, P0, Below.refl _ _⟩
  case round =>
    obtain ⟨k, hk, rfl, hP, hb⟩ := hrel
    have hbW := btrans hW hb
    by_cases k0 : k = 0
    · subst k
      have d0 := ble hb c0
      have d1 := ble hb c1
      have hs0 : w.heap.size + 1 < wr.heap.size := cell_lt d0
      clear c0 c1 c2 c3 c4 c5 c6 c7
      have hb1 := balloc wr (.cells #[.func (.func 60) #[V] #[], .int .i64 2] 89)
      have hX1 := one_block wr (.cells #[.func (.func 60) #[V] #[], .int .i64 2] 89)
      go_wp2_with fail
      refine (C0 _ (hzW.below (btrans hb hb1))).mono ?_
      rintro e w1 ⟨rfl, hb2⟩
      have x1 := ble hb2 (blk_cell hX1 1)
      have hb3 := btrans hb1 hb2
      cases hO : ordB s
      · have R := hide (K0.out hO)
        go_wp2
        go_ret
        exact ⟨ret_int R.out.symm, btrans hbW hb3⟩
      · have hP2 := hide (P1.out hO)
        clear hO
        go_wp2
        go_roundw
        case rel => exact ⟨1, by omega, by go_num, hP2, btrans hb hb3⟩
        case measure => simp [intOf]
    by_cases k1 : k = 1
    · subst k
      have d2 := ble hb c2
      have d3 := ble hb c3
      have hs1 : w.heap.size + 1 < wr.heap.size := cell_lt d2
      clear c0 c1 c2 c3 c4 c5 c6 c7
      have hb1 := balloc wr (.cells #[.func (.func 61) #[V] #[], .int .i64 3] 89)
      have hX1 := one_block wr (.cells #[.func (.func 61) #[V] #[], .int .i64 3] 89)
      go_wp2_with fail
      refine (C1 _ (hzW.below (btrans hb hb1))).mono ?_
      rintro e w1 ⟨rfl, hb2⟩
      have x1 := ble hb2 (blk_cell hX1 1)
      have hb3 := btrans hb1 hb2
      by_cases hO : rp < spd s
      · have R := hide (K1.out (hP.out.1 (by omega)) hO)
        rw [decide_eq_true hO]
        clear hO
        go_wp2
        go_ret
        exact ⟨ret_int R.out.symm, btrans hbW hb3⟩
      · have hP2 := hide (P2.out hP.out (by omega))
        rw [decide_eq_false hO]
        clear hO
        go_wp2
        go_roundw
        case rel => exact ⟨2, by omega, by go_num, hP2, btrans hb hb3⟩
        case measure => simp [intOf]
    by_cases k2 : k = 2
    · subst k
      have d4 := ble hb c4
      have d5 := ble hb c5
      have hs2 : w.heap.size + 1 < wr.heap.size := cell_lt d4
      clear c0 c1 c2 c3 c4 c5 c6 c7
      have hb1 := balloc wr (.cells #[.func (.func 62) #[V] #[], .int .i64 4] 89)
      have hX1 := one_block wr (.cells #[.func (.func 62) #[V] #[], .int .i64 4] 89)
      go_wp2_with fail
      refine (C2 _ (hzW.below (btrans hb hb1))).mono ?_
      rintro e w1 ⟨rfl, hb2⟩
      have x1 := ble hb2 (blk_cell hX1 1)
      have hb3 := btrans hb1 hb2
      by_cases hO : rd < drv s
      · have R := hide (K2.out (hP.out.1 (by omega)) (by have : ¬ rp < spd s := hP.out.2.1 (by omega); omega) hO)
        rw [decide_eq_true hO]
        clear hO
        go_wp2
        go_ret
        exact ⟨ret_int R.out.symm, btrans hbW hb3⟩
      · have hP2 := hide (P3.out hP.out (by omega))
        rw [decide_eq_false hO]
        clear hO
        go_wp2
        go_roundw
        case rel => exact ⟨3, by omega, by go_num, hP2, btrans hb hb3⟩
        case measure => simp [intOf]
    by_cases k3 : k = 3
    · subst k
      have d6 := ble hb c6
      have d7 := ble hb c7
      have hs3 : w.heap.size + 1 < wr.heap.size := cell_lt d6
      clear c0 c1 c2 c3 c4 c5 c6 c7
      have hb1 := balloc wr (.cells #[.func (.func 63) #[V] #[], .int .i64 5] 89)
      have hX1 := one_block wr (.cells #[.func (.func 63) #[V] #[], .int .i64 5] 89)
      go_wp2_with fail
      refine (C3 _ (hzW.below (btrans hb hb1))).mono ?_
      rintro e w1 ⟨rfl, hb2⟩
      have x1 := ble hb2 (blk_cell hX1 1)
      have hb3 := btrans hb1 hb2
      by_cases hO : rs < strV rr s
      · have R := hide (K3.out (hP.out.1 (by omega)) (by have : ¬ rp < spd s := hP.out.2.1 (by omega); omega) (by have : ¬ rd < drv s := hP.out.2.2.1 (by omega); omega) hO)
        rw [decide_eq_true hO]
        clear hO
        go_wp2
        go_ret
        exact ⟨ret_int R.out.symm, btrans hbW hb3⟩
      · have hP2 := hide (P4.out hP.out (by omega))
        rw [decide_eq_false hO]
        clear hO
        go_wp2
        go_roundw
        case rel => exact ⟨4, by omega, by go_num, hP2, btrans hb hb3⟩
        case measure => simp [intOf]
    obtain rfl : k = 4 := by omega
    have n1 : ¬ rp < spd s := hP.out.2.1 (by omega)
    have n2 : ¬ rd < drv s := hP.out.2.2.1 (by omega)
    have n3 : ¬ rs < strV rr s := hP.out.2.2.2 (by omega)
    have R := hide (K4.out (hP.out.1 (by omega)) (by omega) (by omega) (by omega))
    go_wp2
    go_ret
    exact ⟨ret_int R.out.symm, hbW⟩
end Go.Proofs.Ytdmdoknkkfhheaa
