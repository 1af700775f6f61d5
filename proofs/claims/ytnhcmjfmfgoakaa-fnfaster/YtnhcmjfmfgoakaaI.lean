/- The squares at the borders, as the program finds them: two passes over the course. -/
import Derived.Test.YtnhcmjfmfgoakaaH
import Derived.Deep.Cut
namespace Go.Proofs.Ytnhcmjfmfgoakaa
open Go.RowKit

/-- The program's state: the list of squares in a row of block g, the profile in block bx. -/
structure St (w : World) (g bx n : Nat) (u d t : Int) (cs : Value) (xs : List Int) (wr : World) : Prop where
  own : wr.ownsRow (w.heap.size + 1) 3 1 (.slice (some ⟨g, 0, none⟩) n n) n (xs.map (Value.int .i64))
  box : Bx5 wr bx (.int .i64 u) (.int .i64 d) (.int .i64 t) cs (.slice (some ⟨g, 0, none⟩) n n)
  bel : Below w.heap.size w wr
theorem St.grow {w : World} {g bx n : Nat} {u d t : Int} {cs : Value} {xs ys : List Int} {wr wr' : World} (h : St w g bx n u d t cs xs wr) (hne : g ≠ bx) (hg : w.heap.size ≤ g) (hgr : wr.grownBy wr' (some g))
    (ho : wr'.ownsRow (w.heap.size + 1) 3 1 (.slice (some ⟨g, 0, none⟩) n n) n (ys.map (Value.int .i64))) : St w g bx n u d t cs ys wr' :=
  ⟨ho, h.box.grow hgr (fun e => hne (by simpa using e.symm)), h.bel.grown hgr h.bel.size (fun k hk => by simp at hk; omega)⟩
theorem St.below {w : World} {g bx n : Nat} {u d t : Int} {cs : Value} {xs : List Int} {wr wr' : World} (h : St w g bx n u d t cs xs wr) (hb : Below wr.heap.size wr wr') : St w g bx n u d t cs xs wr' :=
  ⟨own_keep h.own hb, h.box.below hb, btrans h.bel hb⟩
theorem Rules.grow {w w1 : World} {r g : Nat} (h : Rules w r) (hg : w.grownBy w1 (some g)) (hne : r ≠ g) : Rules w1 r := fun i hi => (hg.cell_far _ (cell_lt (h i hi)) (fun e => hne (by simpa using e))).trans (h i hi)
theorem filled_step (n k : Nat) : ((filled n k).map (Value.int .i64)).set (k + 1) (.int .i64 8100) = (filled n (k + 1)).map (Value.int .i64) := by
  rw [← List.map_set]
  congr 1
  refine List.ext_getElem (by simp [filled_len]) fun i h1 h2 => ?_
  have hi : i < n + 1 := by rw [filled_len] at h2; exact h2
  rw [List.getElem_set]
  simp only [filled, List.getElem_map, List.getElem_range]
  split
  · rw [if_pos (by omega)]
  · by_cases e : 1 ≤ i ∧ i ≤ k
    · rw [if_pos e, if_pos (by omega)]
    · rw [if_neg e, if_neg (by omega)]
theorem filled_zero (n : Nat) : List.replicate (n + 1) (Value.int .i64 0) = (filled n 0).map (Value.int .i64) := by
  refine List.ext_getElem (by simp [filled_len]) fun i h1 h2 => ?_
  simp only [filled, List.getElem_map, List.getElem_range, List.getElem_replicate]
  rw [if_neg (by omega)]

theorem St.new1 {w w2 : World} {n : Nat} {u d t : Int} {cs : Value} {xs : List Int} {M : Array Value} (hb : Below w.heap.size w w2) (hs : w.heap.size < w2.heap.size) (h1 : M.size = n) (h2 : M.toList = xs.map (Value.int .i64)) (hn : n ≤ 1000) :
    St w w2.heap.size (w2.heap.size + 1) n u d t cs xs ((w2.alloc (.cells M 3)).alloc (.cells #[.int .i64 u, .int .i64 d, .int .i64 t, cs, .slice (some ⟨w2.heap.size, 0, none⟩) n n] 52)).drew := by
  have o := World.ownsRow_lit (base := w.heap.size + 1) (e := 3) (size := 1) w2 M n hs (by unfold maxLen; omega) (by omega)
  rw [h2] at o
  have x := Bx5.new (w2.alloc (.cells M 3)) (.int .i64 u) (.int .i64 d) (.int .i64 t) cs (.slice (some ⟨w2.heap.size, 0, none⟩) n n) 52
  rw [sz1] at x
  exact ⟨o.alloc _, x, (btrans (btrans hb (balloc _ _)) (balloc _ _)).drew⟩
theorem St.new2 {w w2 : World} {n : Nat} {u d t : Int} {cs : Value} {xs : List Int} {M : Array Value} (hb : Below w.heap.size w w2) (hs : w.heap.size < w2.heap.size) (h1 : M.size = n) (h2 : M.toList = xs.map (Value.int .i64)) (hn : n ≤ 1000) :
    St w (w2.heap.size + 1) w2.heap.size n u d t cs xs ((w2.alloc (.cells #[.int .i64 u, .int .i64 d, .int .i64 t, cs, .slice (some ⟨w2.heap.size + 1, 0, none⟩) n n] 52)).alloc (.cells M 3)).drew := by
  have o := World.ownsRow_lit (base := w.heap.size + 1) (e := 3) (size := 1) (w2.alloc (.cells #[.int .i64 u, .int .i64 d, .int .i64 t, cs, .slice (some ⟨w2.heap.size + 1, 0, none⟩) n n] 52)) M n (by rw [sz1]; omega) (by unfold maxLen; omega) (by omega)
  rw [h2, sz1] at o
  have x := (Bx5.new w2 (.int .i64 u) (.int .i64 d) (.int .i64 t) cs (.slice (some ⟨w2.heap.size + 1, 0, none⟩) n n) 52).below (balloc _ (.cells M 3))
  exact ⟨o, x, (btrans (btrans hb (balloc _ _)) (balloc _ _)).drew⟩
theorem Rules.new (w : World) (ty : TypeId) : Rules (w.alloc (.cells #[.func (.func 45) #[] #[], .func (.func 46) #[] #[], .func (.func 47) #[] #[], .func (.func 48) #[] #[], .func (.func 49) #[] #[]] ty)) w.heap.size := by
  intro i hi
  match i, hi with
  | 0, _ => simp
  | 1, _ => simp
  | 2, _ => simp
  | 3, _ => simp
  | 4, _ => simp
theorem c50n (a : Option Addr) (cap b g r B : Nat) (m : MotorV) (zs xs : List Int) (n : Nat) (w : World) (R : Right m zs) (hz : Ints w a zs) (hr : Rules w r) (hx : In81 xs) (hlen : xs.length = n) (hn : n = zs.length + 1)
    (ho : w.ownsRow B 3 1 (.slice (some ⟨g, 0, none⟩) n n) n (xs.map (Value.int .i64))) (hb0 : 1 ≤ b) (hb : b < zs.length) :
    Calls Try.prog 50 #[profV m (.slice a zs.length cap) (.slice (some ⟨g, 0, none⟩) n n), .int .i64 b, .slice (some ⟨r, 0, none⟩) 5 5] w fun e w' => e = .returned (.tuple #[]) ∧
      w'.ownsRow B 3 1 (.slice (some ⟨g, 0, none⟩) n n) n ((lower m zs xs b).map (Value.int .i64)) ∧ w.grownBy w' (some g) := by
  subst hlen
  exact c50 a cap b g r B m zs xs w R hz hr hx hn ho hb0 hb

set_option maxRecDepth 20000 in
set_option maxHeartbeats 6400000 in
theorem c17 (a : Option Addr) (cap : Nat) (m : MotorV) (zs : List Int) (w : World) (hz : Ints w a zs) (hl : zs.length ≤ 1048576) :
    Calls Try.prog 17 #[m.val, .slice a zs.length cap] w fun e w' => ∃ v, e = .returned v ∧ w'.ownsRow w.heap.size 3 1 v (sqs m zs).length ((sqs m zs).map (Value.int .i64)) ∧ Below w.heap.size w w' := by
  obtain ⟨i0, hi, hz0, hz1, hz2⟩ := info_parts info3
  cases hm : motorB m
  · have E := sqs_no (zs := zs) (.inl hm)
    rw [E]
    obtain ⟨u, d, t⟩ := m
    unfold MotorV.val
    go_enter Try.func17, Try.ntmps17
    go_wp2_with fail
    refine (c28 ⟨u, d, t⟩ _).mono ?_
    rintro e w1 ⟨rfl, hb⟩
    rw [hm]
    have HB := btrans (balloc _ _) hb
    clear hb
    go_wp2
    go_ret
    exact ⟨_, rfl, World.ownsRow_nil _ _ _ _, HB⟩
  cases hg : courseB zs
  · have E := sqs_no (m := m) (.inr hg)
    rw [E]
    obtain ⟨u, d, t⟩ := m
    unfold MotorV.val
    go_enter Try.func17, Try.ntmps17
    go_wp2_with fail
    refine (c28 ⟨u, d, t⟩ _).mono ?_
    rintro e w1 ⟨rfl, hb⟩
    rw [hm]
    have HB := btrans (balloc _ _) hb
    clear hb
    go_wp2_with fail
    refine (c44 a cap zs _ (hz.below HB) hl).mono ?_
    rintro e w2 ⟨rfl, hw⟩
    subst hw
    rw [hg]
    go_wp2
    go_ret
    exact ⟨_, rfl, World.ownsRow_nil _ _ _ _, HB⟩
  have R := Right.of hm hg
  have E := sqs_yes hm hg
  have E' : (sqs m zs).length = zs.length + 1 := by rw [E]; simp
  rw [← passes R] at E
  rw [E', E]
  clear E E'
  have n0 := R.n0
  have n1 := R.n1
  have hS1 : ∀ q, Hid (pass1 m zs (q + 1) = lower m zs (pass1 m zs q) (q + 1)) := fun _ => rfl
  have hS2 : ∀ q, Hid (pass2 m zs (q + 1) = lower m zs (pass2 m zs q) (zs.length - 1 - q)) := fun _ => rfl
  have hS0 : Hid (pass1 m zs 0 = filled zs.length (zs.length - 1)) := rfl
  have hS00 : Hid (pass2 m zs 0 = pass1 m zs (zs.length - 1)) := rfl
  have hL1 := fun q => pass1_len (m := m) (zs := zs) q
  have hL2 := fun q => pass2_len (m := m) (zs := zs) q
  have hP1 := In81.pass1 R
  have hP2 := In81.pass2 R
  have LOW := fun (xs : List Int) (b g r : Nat) (w' : World) hz' hr hx hlen ho hb0 hb => c50n a cap b g r (w.heap.size + 1) m zs xs (zs.length + 1) w' R hz' hr hx hlen rfl ho hb0 hb
  clear R
  generalize pass1 m zs = P1 at *
  generalize pass2 m zs = P2 at *
  generalize lower m zs = LO at *
  obtain ⟨u, d, t⟩ := m
  unfold MotorV.val
  unfold profV at LOW
  have hmk : ∀ w', (Instr.makeSlice 26 (.int .i64 ((zs.length : Int) + 1)) (.int .i64 ((zs.length : Int) + 1))).run Try.prog w' = .ok (.slice (some ⟨w'.heap.size, 0, none⟩) (zs.length + 1) (zs.length + 1)) (w'.alloc (.cells (madeCells #[.int .i64 0] (zs.length + 1)) 3)) := by
    intro w'
    have := run_make (P := Try.prog) w' 26 3 i0 (.int .i64 0) Try.underlying26 hi hz0 .i64 .i64 ((zs.length : Int) + 1) ((zs.length : Int) + 1) (by omega) (by omega) (by rw [hz2]; omega) (by omega)
    rw [hz1] at this
    simpa [Value.cells] using this
  have hM1 : (madeCells #[.int .i64 0] (zs.length + 1)).size = zs.length + 1 := size_madeCells _ _
  have hM2 : (madeCells #[.int .i64 0] (zs.length + 1)).toList = (filled zs.length 0).map (Value.int .i64) := by rw [toList_madeCells_one, filled_zero]
  generalize madeCells #[.int .i64 0] (zs.length + 1) = M at hmk hM1 hM2
  go_enter Try.func17, Try.ntmps17
  go_wp2_with fail
  refine (c28 ⟨u, d, t⟩ _).mono ?_
  rintro e w1 ⟨rfl, hb⟩
  rw [hm]
  have HB := btrans (balloc _ _) hb
  have X := Bx3.mk hb
  clear hb
  go_wp2_with fail
  refine (c44 a cap zs _ (hz.below HB) hl).mono ?_
  rintro e w2 ⟨rfl, hw⟩
  subst hw
  rw [hg]
  obtain ⟨b0, b1, b2⟩ := id X
  have hs2 := cell_lt b0
  go_upto_region 3 with fail
  go_cut [5] from 10 (fun sv wc => ∃ g bx, sv = .pointer (some ⟨bx, 0, none⟩) ∧ w.heap.size ≤ g ∧ g ≠ bx ∧ St w g bx (zs.length + 1) u d t (.slice a zs.length cap) (filled zs.length 0) wc)
  case first =>
    go_region
    all_goals (go_wp2_with fail; go_meet)
    all_goals first
      | (with_reducible refine ⟨_, _, rfl, ?_, ?_, St.new1 HB hs2 hM1 hM2 (by omega)⟩ <;> omega)
      | (with_reducible refine ⟨_, _, rfl, ?_, ?_, St.new2 HB hs2 hM1 hM2 (by omega)⟩ <;> omega)
  case rest =>
    obtain ⟨g, bx, rfl, hg0, hne, S0⟩ := hcut
    clear b0 b1 b2 hmk hM1 hM2 X HB hs2
    go_wp2_with fail
    go_loopw [6] (fun i wr => ∃ q : Nat, q < zs.length ∧ i = .int .i64 ((q : Int) + 1) ∧ St w g bx (zs.length + 1) u d t (.slice a zs.length cap) (filled zs.length q) wr) (fun i _ => zs.length + 1 - (intOf i).toNat)
    case atStart => exact ⟨0, by omega, rfl, S0⟩
    case round =>
      clear S0
      obtain ⟨q, hq, rfl, S⟩ := hrel
      obtain ⟨x0, x1, x2, x3, x4⟩ := id S.box
      by_cases hlt : q + 1 < zs.length
      · have hfr := S.own.frozenAt (q + 1)
        have hcw : wr.cell? ⟨g, q + 1, none⟩ = some (.int .i64 0) := by
          rw [S.own.cellAt (q + 1) (by omega), List.getElem?_map]
          have : (filled zs.length q)[q + 1]? = some 0 := by simp [filled, show q + 1 < zs.length + 1 by omega]
          rw [this]; rfl
        obtain ⟨o2, g2⟩ := S.own.stored (q + 1) (.int .i64 8100)
        rw [filled_step] at o2
        have S2 := S.grow hne hg0 g2 o2
        have hx4 := S2.box
        clear o2 g2 S hx4
        go_wp2
        go_roundw
        case rel => exact ⟨q + 1, by omega, by go_num, S2⟩
        case measure => simp [intOf]; omega
      · obtain rfl : q = zs.length - 1 := by omega
        have S1 : St w g bx (zs.length + 1) u d t (.slice a zs.length cap) (P1 0) wr := by rw [hS0.out]; exact S
        clear S
        have e1 : ((zs.length - 1 : Nat) : Int) + 1 = zs.length := by omega
        rw [e1]
        go_wp2_with fail
        clear x0 x1 x2 x3 x4 e1
        have RU := Rules.new wr 62
        have hrg : wr.heap.size ≠ g := by have := owns_lt S1.own; omega
        have SS := S1.below (balloc wr (.cells #[.func (.func 45) #[] #[], .func (.func 46) #[] #[], .func (.func 47) #[] #[], .func (.func 48) #[] #[], .func (.func 49) #[] #[]] 62))
        clear S1
        generalize wr.heap.size = r at *
        go_loopw [8] (fun i wr => ∃ q : Nat, q < zs.length ∧ i = .int .i64 ((q : Int) + 1) ∧ St w g bx (zs.length + 1) u d t (.slice a zs.length cap) (P1 q) wr ∧ Rules wr r) (fun i _ => zs.length + 1 - (intOf i).toNat)
        case atStart => exact ⟨0, by omega, rfl, SS, RU⟩
        case round =>
          clear SS RU
          obtain ⟨q, hq, rfl, S, RU⟩ := hrel
          obtain ⟨x0, x1, x2, x3, x4⟩ := id S.box
          by_cases hlt : q + 1 < zs.length
          · have C := LOW (P1 q) (q + 1) g r wr (hz.below S.bel) RU (hP1 q) (hL1 q) S.own (by omega) hlt
            rw [← (hS1 q).out] at C
            go_wp2_with fail
            refine C.mono ?_
            rintro e w5 ⟨rfl, o2, g2⟩
            have S2 := S.grow hne hg0 g2 o2
            have RU2 := RU.grow g2 hrg
            clear C S RU o2 g2 x0 x1 x2 x3 x4
            go_wp2
            go_roundw
            case rel => exact ⟨q + 1, by omega, by go_num, S2, RU2⟩
            case measure => simp [intOf]; omega
          · obtain rfl : q = zs.length - 1 := by omega
            have S1 : St w g bx (zs.length + 1) u d t (.slice a zs.length cap) (P2 0) wr := by rw [hS00.out]; exact S
            clear S
            have e1 : ((zs.length - 1 : Nat) : Int) + 1 = zs.length := by omega
            rw [e1]
            clear x0 x1 x2 x3 x4 e1
            go_wp2_with fail
            go_loopw [9] (fun i wr => ∃ q : Nat, q < zs.length ∧ i = .int .i64 ((zs.length : Int) - 1 - q) ∧ St w g bx (zs.length + 1) u d t (.slice a zs.length cap) (P2 q) wr ∧ Rules wr r) (fun i _ => (intOf i).toNat)
            case atStart => exact ⟨0, by omega, by go_num, S1, RU⟩
            case round =>
              clear S1 RU
              obtain ⟨q, hq, rfl, S, RU⟩ := hrel
              obtain ⟨x0, x1, x2, x3, x4⟩ := id S.box
              by_cases hlt : q + 1 < zs.length
              · have C := LOW (P2 q) (zs.length - 1 - q) g r wr (hz.below S.bel) RU (hP2 q) (hL2 q) S.own (by omega) (by omega)
                rw [← (hS2 q).out] at C
                have e2 : ((zs.length - 1 - q : Nat) : Int) = (zs.length : Int) - 1 - q := by omega
                rw [e2] at C
                go_wp2_with fail
                refine C.mono ?_
                rintro e w5 ⟨rfl, o2, g2⟩
                have S2 := S.grow hne hg0 g2 o2
                have RU2 := RU.grow g2 hrg
                clear C S RU o2 g2 x0 x1 x2 x3 x4 e2
                go_wp2
                go_roundw
                case rel => exact ⟨q + 1, by omega, by go_num, S2, RU2⟩
                case measure => simp [intOf]; omega
              · obtain rfl : q = zs.length - 1 := by omega
                have e1 : (zs.length : Int) - 1 - ((zs.length - 1 : Nat) : Int) = 0 := by omega
                rw [e1]
                go_wp2
                go_ret
                exact ⟨_, rfl, Go.Joins.ownsRow_le S.own (by omega), S.bel⟩
end Go.Proofs.Ytnhcmjfmfgoakaa
