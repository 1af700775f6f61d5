/- A border's square brought down to what its rules allow. -/
import Derived.Test.YtnhcmjfmfgoakaaG
import Derived.Deep.RegionWith
namespace Go.Proofs.Ytnhcmjfmfgoakaa
open Go.RowKit

/-- A boxed struct of five cells. -/
def Bx5 (w : World) (b : Nat) (c0 c1 c2 c3 c4 : Value) : Prop := w.cell? ⟨b, 0, none⟩ = some c0 ∧ w.cell? ⟨b, 1, none⟩ = some c1 ∧ w.cell? ⟨b, 2, none⟩ = some c2 ∧ w.cell? ⟨b, 3, none⟩ = some c3 ∧ w.cell? ⟨b, 4, none⟩ = some c4
theorem Bx5.below {w w1 : World} {b : Nat} {c0 c1 c2 c3 c4 : Value} (h : Bx5 w b c0 c1 c2 c3 c4) (hb : Below w.heap.size w w1) : Bx5 w1 b c0 c1 c2 c3 c4 := ⟨ble hb h.1, ble hb h.2.1, ble hb h.2.2.1, ble hb h.2.2.2.1, ble hb h.2.2.2.2⟩
theorem Bx5.new (w : World) (c0 c1 c2 c3 c4 : Value) (t : TypeId) : Bx5 (w.alloc (.cells #[c0, c1, c2, c3, c4] t)) w.heap.size c0 c1 c2 c3 c4 := ⟨by simp, by simp, by simp, by simp, by simp⟩
theorem Bx5.grow {w w' : World} {b : Nat} {c0 c1 c2 c3 c4 : Value} {r : Option Nat} (h : Bx5 w b c0 c1 c2 c3 c4) (hg : w.grownBy w' r) (hne : some b ≠ r) : Bx5 w' b c0 c1 c2 c3 c4 :=
  ⟨(hg.cell_far _ (cell_lt h.1) hne).trans h.1, (hg.cell_far _ (cell_lt h.1) hne).trans h.2.1, (hg.cell_far _ (cell_lt h.1) hne).trans h.2.2.1, (hg.cell_far _ (cell_lt h.1) hne).trans h.2.2.2.1, (hg.cell_far _ (cell_lt h.1) hne).trans h.2.2.2.2⟩

/-- The five rules' numbers at border b. -/
def bnds (m : MotorV) (zs xs : List Int) (b : Nat) : List Int := [m.t * m.t, zs.getD (b - 1) 0 * zs.getD (b - 1) 0, zs.getD b 0 * zs.getD b 0, xs.getD (b - 1) 0 + m.u, xs.getD (b + 1) 0 + m.d]
theorem bnds_least (m : MotorV) (zs xs : List Int) (b : Nat) : leastL (xs.getD b 0) (bnds m zs xs b) = lowV m zs xs b := rfl
/-- The five rules as the program keeps them: function values in a row of block r. -/
def Rules (w : World) (r : Nat) : Prop := ∀ i, i < 5 → w.cell? ⟨r, i, none⟩ = some (.func (.func (45 + i)) #[] #[])
theorem Rules.below {w w1 : World} {r : Nat} (h : Rules w r) (hb : Below w.heap.size w w1) : Rules w1 r := fun i hi => ble hb (h i hi)

theorem grown_of {a b c : World} {r : Option Nat} (h : Below a.heap.size a b) (g : b.grownBy c r) : a.grownBy c r :=
  ⟨g.os.trans h.os, g.tape.trans h.tape, g.output.trans h.output, Nat.le_trans h.size g.size, fun k hk hr => (g.block k (Nat.lt_of_lt_of_le hk h.size) hr).trans (h.block k hk)⟩
theorem own_from {w : World} {base e sz n B : Nat} {v : Value} {xs : List Value} (h : w.ownsRow base e sz v n xs) (hB : B ≤ base) : ∀ j, v.ownBlock = some j → B ≤ j := by
  intro j hj
  rcases h.2 with ⟨rfl, _⟩ | ⟨g, cap', cur, rfl, hg, _⟩
  · simp [Value.ownBlock] at hj
  · simp [Value.ownBlock] at hj; omega
theorem own_not {w : World} {base e sz n b : Nat} {v : Value} {xs : List Value} (h : w.ownsRow base e sz v n xs) (hB : b < base) : some b ≠ v.ownBlock := by
  intro hj
  have := own_from h (Nat.le_refl _) b hj.symm
  omega
theorem own_form {w : World} {base e sz n : Nat} {v : Value} {xs : List Value} (h : w.ownsRow base e sz v n xs) : ∃ a c, v = .slice a n c := by
  rcases h.2 with ⟨rfl, h0⟩ | ⟨g, cap', cur, rfl, _⟩
  · exact ⟨none, 0, by rw [h0]⟩
  · exact ⟨_, _, rfl⟩
theorem ints_own {w : World} {base n c : Nat} {a : Option Addr} {ys : List Int} (h : w.ownsRow base 3 1 (.slice a n c) n (ys.map (Value.int .i64))) (hn : ys.length = n) : Ints w a ys := by
  rcases h.2 with ⟨_, h0⟩ | ⟨g, cap', cur, he, _⟩
  · left; cases ys <;> simp_all
  · simp only [Value.slice.injEq] at he
    obtain ⟨rfl, _, rfl⟩ := he
    exact Ints.of_owns h
theorem c57q (a : Option Addr) (cap : Nat) (x : Int) (ys : List Int) (w : World) (n : Nat) (hn : ys.length = n) (hz : Ints w a ys) (hl : n ≤ 200) :
    Calls Try.prog 57 #[.int .i64 x, .slice a n cap] w fun e w' => e = .returned (.int .i64 (leastL x ys)) ∧ w' = w := by
  subst hn
  exact c57 a cap x ys w hz hl

set_option maxRecDepth 20000 in
set_option maxHeartbeats 6400000 in
theorem c50 (a : Option Addr) (cap b g r B : Nat) (m : MotorV) (zs xs : List Int) (w : World) (R : Right m zs) (hz : Ints w a zs) (hr : Rules w r) (hx : In81 xs) (hlen : xs.length = zs.length + 1)
    (ho : w.ownsRow B 3 1 (.slice (some ⟨g, 0, none⟩) xs.length xs.length) xs.length (xs.map (Value.int .i64))) (hb0 : 1 ≤ b) (hb : b < zs.length) :
    Calls Try.prog 50 #[profV m (.slice a zs.length cap) (.slice (some ⟨g, 0, none⟩) xs.length xs.length), .int .i64 b, .slice (some ⟨r, 0, none⟩) 5 5] w fun e w' => e = .returned (.tuple #[]) ∧
      w'.ownsRow B 3 1 (.slice (some ⟨g, 0, none⟩) xs.length xs.length) xs.length ((lower m zs xs b).map (Value.int .i64)) ∧ w.grownBy w' (some g) := by
  obtain ⟨i0, hi, hz0, hz1, hz2⟩ := info_parts info3
  have n1 := R.n1
  have C0 := fun (w' : World) => c45 m (.slice a zs.length cap) (.slice (some ⟨g, 0, none⟩) xs.length xs.length) b w' (by have := R.t0; omega) R.t1
  have C1 := fun (w' : World) (hz' : Ints w' a zs) => c46 a cap b m (.slice (some ⟨g, 0, none⟩) xs.length xs.length) zs w' hz' hb0 hb n1 (by have := R.z (b - 1) (by omega); omega)
  have C2 := fun (w' : World) (hz' : Ints w' a zs) => c47 a cap b m (.slice (some ⟨g, 0, none⟩) xs.length xs.length) zs w' hz' hb0 hb n1 (by have := R.z b (by omega); omega)
  have C3 := fun (w' : World) (hz' : Ints w' (some ⟨g, 0, none⟩) xs) => c48 (some ⟨g, 0, none⟩) xs.length b m (.slice a zs.length cap) xs w' hz' hb0 (by omega) (by omega) (hx _) (by have := R.u0; omega) R.u1
  have C4 := fun (w' : World) (hz' : Ints w' (some ⟨g, 0, none⟩) xs) => c49 (some ⟨g, 0, none⟩) xs.length b m (.slice a zs.length cap) xs w' hz' hb0 (by omega) (by omega) (hx _) (by have := R.d0; omega) R.d1
  have hV : Hid (leastL (xs.getD b 0) (bnds m zs xs b) = lowV m zs xs b) := bnds_least m zs xs b
  have hL : (bnds m zs xs b).length = 5 := rfl
  have hB0 : Hid ((bnds m zs xs b).getD 0 0 = m.t * m.t) := rfl
  have hB1 : Hid ((bnds m zs xs b).getD 1 0 = zs.getD (b - 1) 0 * zs.getD (b - 1) 0) := rfl
  have hB2 : Hid ((bnds m zs xs b).getD 2 0 = zs.getD b 0 * zs.getD b 0) := rfl
  have hB3 : Hid ((bnds m zs xs b).getD 3 0 = xs.getD (b - 1) 0 + m.u) := rfl
  have hB4 : Hid ((bnds m zs xs b).getD 4 0 = xs.getD (b + 1) 0 + m.d) := rfl
  rw [← hB0.out] at C0
  rw [← hB1.out] at C1
  rw [← hB2.out] at C2
  rw [← hB3.out] at C3
  rw [← hB4.out] at C4
  clear hB0 hB1 hB2 hB3 hB4
  have hzx : Ints w (some ⟨g, 0, none⟩) xs := Ints.of_owns ho
  generalize bnds m zs xs b = Q at *
  have hxb : (xs.map (Value.int .i64))[b]? = some (.int .i64 (xs.getD b 0)) := by simp [List.getD, show b < xs.length by omega]
  have hgen : Hid (lower m zs xs b = xs.set b (lowV m zs xs b)) := rfl
  generalize hn : xs.length = n at *
  clear hn
  have hn1 : (b : Int) + 1 < (n : Int) := by omega
  have hn2 : n ≤ 201 := by omega
  clear hlen
  have hT : ∀ k, k < 5 → Hid (Q.take (k + 1) = Q.take k ++ [Q.getD k 0]) := by
    intro k hk
    show _ = _
    rw [List.take_succ_eq_append_getElem (by omega)]
    simp [List.getD, show k < Q.length by omega]
  obtain ⟨u, d, t⟩ := m
  unfold profV at *
  have hW := balloc w (.cells #[.int .i64 u, .int .i64 d, .int .i64 t, .slice a zs.length cap, .slice (some ⟨g, 0, none⟩) n n] 52)
  have hX := Bx5.new w (.int .i64 u) (.int .i64 d) (.int .i64 t) (.slice a zs.length cap) (.slice (some ⟨g, 0, none⟩) n n) 52
  go_enter Try.func50, Try.ntmps50
  go_wp2
  go_loopw [6, 8, 11] (fun v _ i wr => ∃ k : Nat, k ≤ 5 ∧ i = .int .i64 k ∧ wr.ownsRow (w.heap.size + 1) 3 1 v k ((Q.take k).map (Value.int .i64)) ∧ Bx5 wr w.heap.size (.int .i64 u) (.int .i64 d) (.int .i64 t) (.slice a zs.length cap) (.slice (some ⟨g, 0, none⟩) n n) ∧ Below w.heap.size w wr) (fun _ _ i _ => 5 - (intOf i).toNat)
  case atStart => exact ⟨0, Nat.zero_le _, rfl, by simpa using World.ownsRow_nil _ _ _ _, hX, hW⟩
  case round =>
    clear hX hW
    obtain ⟨k, hk, rfl, hown, hX, hbel⟩ := hrel
    have hk' : k = 0 ∨ k = 1 ∨ k = 2 ∨ k = 3 ∨ k = 4 ∨ k = 5 := by omega
    rcases hk' with rfl | rfl | rfl | rfl | rfl | rfl
    · have hc := ble hbel (hr 0 (by omega))
      obtain ⟨b0, b1, b2, b3, b4⟩ := id hX
      go_wp2_with fail
      refine (C0 _).mono ?_
      rintro e w1 ⟨rfl, hb1⟩
      have hbel1 := btrans hbel hb1
      have hown1 := own_keep hown hb1
      have hX1 := hX.below hb1
      clear hbel hown hX hb1 b0 b1 b2 b3 b4 hc
      have HM := hT 0 (by omega)
      generalize Q.getD 0 0 = Y at *
      have hsz := hbel1.size
      have hsz2 := cell_lt hX1.1
      go_wp2_with (at_builtin; refine wpList_append_own _ rfl _ _ 26 rfl (w.heap.size + 1) 3 i0 (.int .i64 0) 1 8 Try.underlying26 hi hz0 hz1 hz2 rfl (by decide) _ _ _ rfl (hown1.alloc _) ⟨w1.heap.size, 0, none⟩ 1 1 [.int .i64 Y] rfl rfl ?c1 ?c2 ?c3 ?c4 ?c5 ?_)
      case c1 =>
        intro j u hj
        match j, hj with
        | 0, hj => simp at hj; subst hj; simp [Addr.add]
      case c2 => intro u hu; simp at hu; subst hu; rfl
      case c3 => unfold maxLen; omega
      case c4 => omega
      case c5 => simp; omega
      intro v' w5 hown' hgrow _
      have hbel' : Below w.heap.size w w5 := (hbel1.alloc hsz _).grown hgrow (by simp; omega) (own_from hown1 (by omega))
      have hX' := (hX1.below (balloc _ _)).grow hgrow (own_not hown1 (by omega))
      have hown2 : w5.ownsRow (w.heap.size + 1) 3 1 v' (0 + 1) ((Q.take (0 + 1)).map (Value.int .i64)) := by
        rw [HM.out, List.map_append]; first | exact hown' | (rw [List.map_take]; exact hown')
      clear hown1 hown' hgrow hbel1 hX1
      go_wp2
      go_roundw
      case rel => exact ⟨0 + 1, by omega, by go_num, hown2, hX', hbel'⟩
      case measure => simp [intOf]
    · have hc := ble hbel (hr 1 (by omega))
      obtain ⟨b0, b1, b2, b3, b4⟩ := id hX
      go_wp2_with fail
      refine (C1 _ (hz.below hbel)).mono ?_
      rintro e w1 ⟨rfl, hb1⟩
      have hbel1 := btrans hbel hb1
      have hown1 := own_keep hown hb1
      have hX1 := hX.below hb1
      clear hbel hown hX hb1 b0 b1 b2 b3 b4 hc
      have HM := hT 1 (by omega)
      generalize Q.getD 1 0 = Y at *
      have hsz := hbel1.size
      have hsz2 := cell_lt hX1.1
      go_wp2_with (at_builtin; refine wpList_append_own _ rfl _ _ 26 rfl (w.heap.size + 1) 3 i0 (.int .i64 0) 1 8 Try.underlying26 hi hz0 hz1 hz2 rfl (by decide) _ _ _ rfl (hown1.alloc _) ⟨w1.heap.size, 0, none⟩ 1 1 [.int .i64 Y] rfl rfl ?c1 ?c2 ?c3 ?c4 ?c5 ?_)
      case c1 =>
        intro j u hj
        match j, hj with
        | 0, hj => simp at hj; subst hj; simp [Addr.add]
      case c2 => intro u hu; simp at hu; subst hu; rfl
      case c3 => unfold maxLen; omega
      case c4 => omega
      case c5 => simp; omega
      intro v' w5 hown' hgrow _
      have hbel' : Below w.heap.size w w5 := (hbel1.alloc hsz _).grown hgrow (by simp; omega) (own_from hown1 (by omega))
      have hX' := (hX1.below (balloc _ _)).grow hgrow (own_not hown1 (by omega))
      have hown2 : w5.ownsRow (w.heap.size + 1) 3 1 v' (1 + 1) ((Q.take (1 + 1)).map (Value.int .i64)) := by
        rw [HM.out, List.map_append]; first | exact hown' | (rw [List.map_take]; exact hown')
      clear hown1 hown' hgrow hbel1 hX1
      go_wp2
      go_roundw
      case rel => exact ⟨1 + 1, by omega, by go_num, hown2, hX', hbel'⟩
      case measure => simp [intOf]
    · have hc := ble hbel (hr 2 (by omega))
      obtain ⟨b0, b1, b2, b3, b4⟩ := id hX
      go_wp2_with fail
      refine (C2 _ (hz.below hbel)).mono ?_
      rintro e w1 ⟨rfl, hb1⟩
      have hbel1 := btrans hbel hb1
      have hown1 := own_keep hown hb1
      have hX1 := hX.below hb1
      clear hbel hown hX hb1 b0 b1 b2 b3 b4 hc
      have HM := hT 2 (by omega)
      generalize Q.getD 2 0 = Y at *
      have hsz := hbel1.size
      have hsz2 := cell_lt hX1.1
      go_wp2_with (at_builtin; refine wpList_append_own _ rfl _ _ 26 rfl (w.heap.size + 1) 3 i0 (.int .i64 0) 1 8 Try.underlying26 hi hz0 hz1 hz2 rfl (by decide) _ _ _ rfl (hown1.alloc _) ⟨w1.heap.size, 0, none⟩ 1 1 [.int .i64 Y] rfl rfl ?c1 ?c2 ?c3 ?c4 ?c5 ?_)
      case c1 =>
        intro j u hj
        match j, hj with
        | 0, hj => simp at hj; subst hj; simp [Addr.add]
      case c2 => intro u hu; simp at hu; subst hu; rfl
      case c3 => unfold maxLen; omega
      case c4 => omega
      case c5 => simp; omega
      intro v' w5 hown' hgrow _
      have hbel' : Below w.heap.size w w5 := (hbel1.alloc hsz _).grown hgrow (by simp; omega) (own_from hown1 (by omega))
      have hX' := (hX1.below (balloc _ _)).grow hgrow (own_not hown1 (by omega))
      have hown2 : w5.ownsRow (w.heap.size + 1) 3 1 v' (2 + 1) ((Q.take (2 + 1)).map (Value.int .i64)) := by
        rw [HM.out, List.map_append]; first | exact hown' | (rw [List.map_take]; exact hown')
      clear hown1 hown' hgrow hbel1 hX1
      go_wp2
      go_roundw
      case rel => exact ⟨2 + 1, by omega, by go_num, hown2, hX', hbel'⟩
      case measure => simp [intOf]
    · have hc := ble hbel (hr 3 (by omega))
      obtain ⟨b0, b1, b2, b3, b4⟩ := id hX
      go_wp2_with fail
      refine (C3 _ (hzx.below hbel)).mono ?_
      rintro e w1 ⟨rfl, hb1⟩
      have hbel1 := btrans hbel hb1
      have hown1 := own_keep hown hb1
      have hX1 := hX.below hb1
      clear hbel hown hX hb1 b0 b1 b2 b3 b4 hc
      have HM := hT 3 (by omega)
      generalize Q.getD 3 0 = Y at *
      have hsz := hbel1.size
      have hsz2 := cell_lt hX1.1
      go_wp2_with (at_builtin; refine wpList_append_own _ rfl _ _ 26 rfl (w.heap.size + 1) 3 i0 (.int .i64 0) 1 8 Try.underlying26 hi hz0 hz1 hz2 rfl (by decide) _ _ _ rfl (hown1.alloc _) ⟨w1.heap.size, 0, none⟩ 1 1 [.int .i64 Y] rfl rfl ?c1 ?c2 ?c3 ?c4 ?c5 ?_)
      case c1 =>
        intro j u hj
        match j, hj with
        | 0, hj => simp at hj; subst hj; simp [Addr.add]
      case c2 => intro u hu; simp at hu; subst hu; rfl
      case c3 => unfold maxLen; omega
      case c4 => omega
      case c5 => simp; omega
      intro v' w5 hown' hgrow _
      have hbel' : Below w.heap.size w w5 := (hbel1.alloc hsz _).grown hgrow (by simp; omega) (own_from hown1 (by omega))
      have hX' := (hX1.below (balloc _ _)).grow hgrow (own_not hown1 (by omega))
      have hown2 : w5.ownsRow (w.heap.size + 1) 3 1 v' (3 + 1) ((Q.take (3 + 1)).map (Value.int .i64)) := by
        rw [HM.out, List.map_append]; first | exact hown' | (rw [List.map_take]; exact hown')
      clear hown1 hown' hgrow hbel1 hX1
      go_wp2
      go_roundw
      case rel => exact ⟨3 + 1, by omega, by go_num, hown2, hX', hbel'⟩
      case measure => simp [intOf]
    · have hc := ble hbel (hr 4 (by omega))
      obtain ⟨b0, b1, b2, b3, b4⟩ := id hX
      go_wp2_with fail
      refine (C4 _ (hzx.below hbel)).mono ?_
      rintro e w1 ⟨rfl, hb1⟩
      have hbel1 := btrans hbel hb1
      have hown1 := own_keep hown hb1
      have hX1 := hX.below hb1
      clear hbel hown hX hb1 b0 b1 b2 b3 b4 hc
      have HM := hT 4 (by omega)
      generalize Q.getD 4 0 = Y at *
      have hsz := hbel1.size
      have hsz2 := cell_lt hX1.1
      go_wp2_with (at_builtin; refine wpList_append_own _ rfl _ _ 26 rfl (w.heap.size + 1) 3 i0 (.int .i64 0) 1 8 Try.underlying26 hi hz0 hz1 hz2 rfl (by decide) _ _ _ rfl (hown1.alloc _) ⟨w1.heap.size, 0, none⟩ 1 1 [.int .i64 Y] rfl rfl ?c1 ?c2 ?c3 ?c4 ?c5 ?_)
      case c1 =>
        intro j u hj
        match j, hj with
        | 0, hj => simp at hj; subst hj; simp [Addr.add]
      case c2 => intro u hu; simp at hu; subst hu; rfl
      case c3 => unfold maxLen; omega
      case c4 => omega
      case c5 => simp; omega
      intro v' w5 hown' hgrow _
      have hbel' : Below w.heap.size w w5 := (hbel1.alloc hsz _).grown hgrow (by simp; omega) (own_from hown1 (by omega))
      have hX' := (hX1.below (balloc _ _)).grow hgrow (own_not hown1 (by omega))
      have hown2 : w5.ownsRow (w.heap.size + 1) 3 1 v' (4 + 1) ((Q.take (4 + 1)).map (Value.int .i64)) := by
        rw [HM.out, List.map_append]; first | exact hown' | (rw [List.map_take]; exact hown')
      clear hown1 hown' hgrow hbel1 hX1
      go_wp2
      go_roundw
      case rel => exact ⟨4 + 1, by omega, by go_num, hown2, hX', hbel'⟩
      case measure => simp [intOf]
    · obtain ⟨b0, b1, b2, b3, b4⟩ := id hX
      have hTQ : Q.take 5 = Q := by rw [← hL, List.take_length]
      rw [hTQ] at hown
      obtain ⟨vo, vc, rfl⟩ := own_form hown
      have hIQ := ints_own hown hL
      have how := own_keep ho hbel
      have hcb := (how.cellAt b (by omega)).trans hxb
      have hfb := how.frozenAt b
      obtain ⟨s1, t1⟩ := how.stored b (.int .i64 (leastL (xs.getD b 0) Q))
      have s2 : (wr.setCell ⟨g, b, none⟩ (.int .i64 (leastL (xs.getD b 0) Q))).ownsRow B 3 1 (.slice (some ⟨g, 0, none⟩) n n) n ((lower ⟨u, d, t⟩ zs xs b).map (Value.int .i64)) := by
        rw [hgen.out, ← hV.out, List.map_set]; exact s1
      have t2 := grown_of hbel t1
      clear s1 t1 how hgen hV ho hown
      generalize xs.getD b 0 = XV at *
      go_wp2_with fail
      go_region_with (go_at_call 57; refine (c57q vo vc XV Q _ 5 hL (hIQ.below (Below.refl _ _).drew) (by omega)).mono ?_; rintro e w' ⟨rfl, hw⟩; obtain rfl := hw.symm)
      all_goals go_end0
      all_goals exact ⟨rfl, s2, ⟨t2.os, t2.tape, t2.output, t2.size, t2.block⟩⟩
end Go.Proofs.Ytnhcmjfmfgoakaa
