/- Loads read back: the program's, with its jumps. -/
import Derived.Test.YtgnohomplehacaaES
namespace Go.Proofs.Ytgnohomplehacaa
open Go.RowKit
theorem drop_at (zs : List Int) {k : Nat} (hk : k < zs.length) : zs.drop k = zs.getD k 0 :: zs.drop (k + 1) := by
  rw [List.drop_eq_getElem_cons hk]
  simp [List.getD, hk]
theorem map_app {o : Option (List Int)} (xs : List Int) (z : Int) : (o.map (z :: ·)).map (xs ++ ·) = o.map ((xs ++ [z]) ++ ·) := by cases o <;> simp
/-- What unescaped answers. -/
def AnsU (w : World) (zs : List Int) (e : Ending) (W : World) : Prop :=
  ((∃ l v, une zs = some l ∧ e = .returned (.tuple #[v, .bool true]) ∧ W.ownsRow w.heap.size 5 1 v l.length (enc8 l)) ∨ (une zs = none ∧ e = .returned (.tuple #[.slice none 0 0, .bool false]))) ∧ Below w.heap.size w W
def JU0 (w : World) (a : Option Addr) (c : Nat) (zs : List Int) (A : Act) (W : World) : Prop := ∃ (f : Nat → Value) (k : Nat) (xs : List Int) (v : Value), A = { tmps := List.toArray (.slice a zs.length c :: f 1 :: f 2 :: f 3 :: v :: f 5 :: .int .i64 (k : Int) :: f 7 :: f 8 :: f 9 :: f 10 :: f 11 :: f 12 :: f 13 :: f 14 :: f 15 :: f 16 :: f 17 :: f 18 :: f 19 :: f 20 :: f 21 :: f 22 :: f 23 :: f 24 :: f 25 :: f 26 :: f 27 :: f 28 :: f 29 :: f 30 :: f 31 :: f 32 :: f 33 :: f 34 :: f 35 :: f 36 :: f 37 :: f 38 :: f 39 :: f 40 :: f 41 :: f 42 :: f 43 :: []), defers := [] } ∧ k ≤ zs.length ∧ xs.length ≤ k ∧ une zs = (une (zs.drop k)).map (xs ++ ·) ∧ W.ownsRow w.heap.size 5 1 v xs.length (enc8 xs) ∧ Below w.heap.size w W
set_option maxRecDepth 1000000 in
theorem JU0.mk {w W : World} {a : Option Addr} {c : Nat} {zs : List Int} {x1 x2 x3 x5 x7 x8 x9 x10 x11 x12 x13 x14 x15 x16 x17 x18 x19 x20 x21 x22 x23 x24 x25 x26 x27 x28 x29 x30 x31 x32 x33 x34 x35 x36 x37 x38 x39 x40 x41 x42 x43 : Value} {k : Nat} {xs : List Int} {v : Value} (h : k ≤ zs.length ∧ xs.length ≤ k ∧ une zs = (une (zs.drop k)).map (xs ++ ·) ∧ W.ownsRow w.heap.size 5 1 v xs.length (enc8 xs) ∧ Below w.heap.size w W) : JU0 w a c zs { tmps := List.toArray (.slice a zs.length c :: x1 :: x2 :: x3 :: v :: x5 :: .int .i64 (k : Int) :: x7 :: x8 :: x9 :: x10 :: x11 :: x12 :: x13 :: x14 :: x15 :: x16 :: x17 :: x18 :: x19 :: x20 :: x21 :: x22 :: x23 :: x24 :: x25 :: x26 :: x27 :: x28 :: x29 :: x30 :: x31 :: x32 :: x33 :: x34 :: x35 :: x36 :: x37 :: x38 :: x39 :: x40 :: x41 :: x42 :: x43 :: []), defers := [] } W :=
  ⟨(fun i => [.bool false, x1, x2, x3, .bool false, x5, .bool false, x7, x8, x9, x10, x11, x12, x13, x14, x15, x16, x17, x18, x19, x20, x21, x22, x23, x24, x25, x26, x27, x28, x29, x30, x31, x32, x33, x34, x35, x36, x37, x38, x39, x40, x41, x42, x43].getD i (.bool false)), k, xs, v, rfl, h⟩
def JU1 (w : World) (a : Option Addr) (c : Nat) (zs : List Int) (A : Act) (W : World) : Prop := ∃ (f : Nat → Value) (k : Nat) (xs : List Int) (v : Value), A = { tmps := List.toArray (.slice a zs.length c :: f 1 :: f 2 :: f 3 :: v :: f 5 :: .int .i64 ((k : Int) + 1) :: f 7 :: f 8 :: f 9 :: f 10 :: f 11 :: f 12 :: f 13 :: f 14 :: f 15 :: f 16 :: f 17 :: f 18 :: f 19 :: f 20 :: f 21 :: f 22 :: f 23 :: f 24 :: f 25 :: f 26 :: f 27 :: f 28 :: f 29 :: f 30 :: f 31 :: f 32 :: f 33 :: f 34 :: f 35 :: f 36 :: f 37 :: f 38 :: f 39 :: f 40 :: f 41 :: f 42 :: f 43 :: []), defers := [] } ∧ k < zs.length ∧ zs.getD k 0 = 125 ∧ xs.length ≤ k ∧ une zs = (une (zs.drop k)).map (xs ++ ·) ∧ W.ownsRow w.heap.size 5 1 v xs.length (enc8 xs) ∧ Below w.heap.size w W
set_option maxRecDepth 1000000 in
theorem JU1.mk {w W : World} {a : Option Addr} {c : Nat} {zs : List Int} {x1 x2 x3 x5 x7 x8 x9 x10 x11 x12 x13 x14 x15 x16 x17 x18 x19 x20 x21 x22 x23 x24 x25 x26 x27 x28 x29 x30 x31 x32 x33 x34 x35 x36 x37 x38 x39 x40 x41 x42 x43 : Value} {k : Nat} {xs : List Int} {v : Value} (h : k < zs.length ∧ zs.getD k 0 = 125 ∧ xs.length ≤ k ∧ une zs = (une (zs.drop k)).map (xs ++ ·) ∧ W.ownsRow w.heap.size 5 1 v xs.length (enc8 xs) ∧ Below w.heap.size w W) : JU1 w a c zs { tmps := List.toArray (.slice a zs.length c :: x1 :: x2 :: x3 :: v :: x5 :: .int .i64 ((k : Int) + 1) :: x7 :: x8 :: x9 :: x10 :: x11 :: x12 :: x13 :: x14 :: x15 :: x16 :: x17 :: x18 :: x19 :: x20 :: x21 :: x22 :: x23 :: x24 :: x25 :: x26 :: x27 :: x28 :: x29 :: x30 :: x31 :: x32 :: x33 :: x34 :: x35 :: x36 :: x37 :: x38 :: x39 :: x40 :: x41 :: x42 :: x43 :: []), defers := [] } W :=
  ⟨(fun i => [.bool false, x1, x2, x3, .bool false, x5, .bool false, x7, x8, x9, x10, x11, x12, x13, x14, x15, x16, x17, x18, x19, x20, x21, x22, x23, x24, x25, x26, x27, x28, x29, x30, x31, x32, x33, x34, x35, x36, x37, x38, x39, x40, x41, x42, x43].getD i (.bool false)), k, xs, v, rfl, h⟩
def JU2 (w : World) (a : Option Addr) (c : Nat) (zs : List Int) (A : Act) (W : World) : Prop := ∃ (f : Nat → Value) , A = { tmps := List.toArray (.slice a zs.length c :: f 1 :: f 2 :: f 3 :: f 4 :: f 5 :: f 6 :: f 7 :: f 8 :: f 9 :: f 10 :: f 11 :: f 12 :: f 13 :: f 14 :: f 15 :: f 16 :: f 17 :: f 18 :: f 19 :: f 20 :: f 21 :: f 22 :: f 23 :: f 24 :: f 25 :: f 26 :: f 27 :: f 28 :: f 29 :: f 30 :: f 31 :: f 32 :: f 33 :: f 34 :: f 35 :: f 36 :: f 37 :: f 38 :: f 39 :: f 40 :: f 41 :: f 42 :: f 43 :: []), defers := [] } ∧ une zs = none ∧ Below w.heap.size w W
set_option maxRecDepth 1000000 in
theorem JU2.mk {w W : World} {a : Option Addr} {c : Nat} {zs : List Int} {x1 x2 x3 x4 x5 x6 x7 x8 x9 x10 x11 x12 x13 x14 x15 x16 x17 x18 x19 x20 x21 x22 x23 x24 x25 x26 x27 x28 x29 x30 x31 x32 x33 x34 x35 x36 x37 x38 x39 x40 x41 x42 x43 : Value}  (h : une zs = none ∧ Below w.heap.size w W) : JU2 w a c zs { tmps := List.toArray (.slice a zs.length c :: x1 :: x2 :: x3 :: x4 :: x5 :: x6 :: x7 :: x8 :: x9 :: x10 :: x11 :: x12 :: x13 :: x14 :: x15 :: x16 :: x17 :: x18 :: x19 :: x20 :: x21 :: x22 :: x23 :: x24 :: x25 :: x26 :: x27 :: x28 :: x29 :: x30 :: x31 :: x32 :: x33 :: x34 :: x35 :: x36 :: x37 :: x38 :: x39 :: x40 :: x41 :: x42 :: x43 :: []), defers := [] } W :=
  ⟨(fun i => [.bool false, x1, x2, x3, x4, x5, x6, x7, x8, x9, x10, x11, x12, x13, x14, x15, x16, x17, x18, x19, x20, x21, x22, x23, x24, x25, x26, x27, x28, x29, x30, x31, x32, x33, x34, x35, x36, x37, x38, x39, x40, x41, x42, x43].getD i (.bool false)), rfl, h⟩
set_option maxRecDepth 1000000 in
set_option maxHeartbeats 6400000 in
theorem cUne (a : Option Addr) (c : Nat) (zs : List Int) (w : World) (hz : Bys w a zs) (hl : zs.length ≤ 1048576) :
    Calls Try.prog 65 #[.slice a zs.length c] w (AnsU w zs) := by
  go_enter Try.func65, Try.ntmps65
  go_wp2
  refine wp_scope_3 (JU0 w a c zs) (JU1 w a c zs) (JU2 w a c zs) (fun l A _ => if l = 2 then 0 else 2 * (zs.length - slotOf A 6) + (if l = 0 then 2 else 3)) rfl rfl rfl ?pass0 ?pass1 ?pass2 ?first
  case first =>
    intro hp
    go_wp2
    go_step3
    rename_i K hK
    exact hK _ _ (hp _ _ (JU0.mk (k := 0) (xs := []) ⟨Nat.zero_le _, Nat.le_refl _, by cases h : une zs <;> simp [h], World.ownsRow_nil _ _ _ _, Below.refl _ _⟩))
  case pass2 =>
    rintro A W ⟨f, rfl, hN, hb⟩
    replace hN := hide hN
    go_wp2
    dsimp only [exitJumps]
    go_ret2
    exact ⟨.inr ⟨hN.out, rfl⟩, hb⟩
  case pass0 =>
    rintro A W ⟨f, k, xs, v, rfl, hk, hxk, hU, ho, hb⟩
    have hB := hb.size
    by_cases hlt : k < zs.length
    · have hne : ¬ ((k : Int) = (zs.length : Int)) := by omega
      have hz2 := hz.below hb
      rcases hz2 with hz2 | ⟨b, off, rfl, hcell⟩
      · simp [hz2] at hlt
      have hck := hcell k hlt
      have hd := drop_at zs hlt
      clear hcell
      by_cases h125 : zs.getD k 0 = 125
      · rw [h125] at hck
        replace hU := hide hU
        replace h125 := hide h125
        clear hd
        go_wp2
        go_step3
        exact ⟨.inr (.inl ⟨rfl, JU1.mk ⟨hlt, h125.out, hxk, hU.out, ho, hb⟩⟩), by simp [slotOf, intOf]; omega⟩
      by_cases h126 : zs.getD k 0 = 126
      · have hN : Hid (une zs = none) := hide (by rw [hU, hd, h126, une_flag]; rfl)
        rw [h126] at hck
        clear hd hU h125 h126
        go_wp2
        go_step3
        exact ⟨.inr (.inr ⟨rfl, JU2.mk ⟨hN.out, hb⟩⟩), by simp⟩
      · have hU2 : Hid (une zs = (une (zs.drop (k + 1))).map ((xs ++ [zs.getD k 0]) ++ ·)) := hide (by rw [← map_app, ← une_plain h125 h126, ← hd]; exact hU)
        obtain ⟨v2, w2, hrun, hrow, hgrow, -⟩ := app_one (zs.getD k 0) rfl ho (by omega) hB
        have hb2 := below_app hb hB ho hgrow
        generalize zs.getD k 0 = z at *
        obtain ⟨va, vc, rfl⟩ := own_form ho
        obtain ⟨va2, vc2, rfl⟩ := own_form hrow
        clear ho hgrow hb hU hd
        go_wp2_with (at_builtin; refine Go.Lib.wpList_append_run _ rfl _ _ _ _ rfl _ _ rfl rfl _ _ hrun ?_)
        go_step3
        exact ⟨.inl ⟨rfl, JU0.mk (k := k + 1) (xs := xs ++ [z]) ⟨hlt, by simp; omega, hU2.out, by rw [List.length_append]; exact hrow, hb2⟩⟩, by simp [slotOf, intOf]; omega⟩
    · obtain rfl : k = zs.length := by omega
      have hE : Hid (une zs = some xs) := hide (by rw [hU]; simp [une])
      clear hz hU
      go_wp2
      dsimp only [exitJumps]
      go_ret2
      exact ⟨.inl ⟨xs, v, hE.out, rfl, ho⟩, hb⟩
  case pass1 =>
    rintro A W ⟨f, k, xs, v, rfl, hk, h125, hxk, hU, ho, hb⟩
    have hB := hb.size
    have hd := drop_at zs hk
    rw [h125] at hd
    by_cases hlt : k + 1 < zs.length
    · have hne : ¬ ((k : Int) + 1 = (zs.length : Int)) := by omega
      have hz2 := hz.below hb
      rcases hz2 with hz2 | ⟨b, off, rfl, hcell⟩
      · simp [hz2] at hlt
      have hck := hcell (k + 1) hlt
      have hd2 := drop_at zs hlt
      have hp := une_pair (zs.getD (k + 1) 0) (zs.drop (k + 1 + 1))
      rw [← hd2, ← hd] at hp
      have hkk : ((k : Int) + 1).toNat = k + 1 := by omega
      have hk0 : (0 : Int) ≤ (k : Int) + 1 := by omega
      have hk1 : (k : Int) + 1 < (zs.length : Int) := by omega
      clear hcell
      generalize zs.getD (k + 1) 0 = y at *
      have CM := cMust (x32 y) W
      have EX : bits .xor .u8 y 32 = x32 y := rfl
      cases hm : mustB (x32 y)
      · have hN : Hid (une zs = none) := hide (by rw [hU, hp, hm]; rfl)
        rw [hm] at CM
        clear hd hU hd2 hp
        go_wp2_with fail
        refine CM.mono ?_
        rintro e w1 ⟨rfl, hw⟩
        subst w1
        go_wp2
        go_step3
        exact ⟨.inr (.inr ⟨rfl, JU2.mk ⟨hN.out, hb⟩⟩), by simp⟩
      · have hU2 : Hid (une zs = (une (zs.drop (k + 1 + 1))).map ((xs ++ [x32 y]) ++ ·)) := hide (by rw [← map_app, hU, hp, if_pos hm])
        rw [hm] at CM
        obtain ⟨v2, w2, hrun, hrow, hgrow, -⟩ := app_one (x32 y) rfl ho (by omega) hB
        have hb2 := below_app hb hB ho hgrow
        obtain ⟨va, vc, rfl⟩ := own_form ho
        obtain ⟨va2, vc2, rfl⟩ := own_form hrow
        clear ho hgrow hb hU hd hd2 hp
        go_wp2_with fail
        refine CM.mono ?_
        rintro e w1 ⟨rfl, hw⟩
        subst w1
        go_wp2_with (at_builtin; refine Go.Lib.wpList_append_run _ rfl _ _ _ _ rfl _ _ rfl rfl _ _ hrun ?_)
        go_step3
        exact ⟨.inl ⟨rfl, JU0.mk (k := k + 1 + 1) (xs := xs ++ [x32 y]) ⟨hlt, by simp; omega, hU2.out, by rw [List.length_append]; exact hrow, hb2⟩⟩, by simp [slotOf, intOf]; omega⟩
    · have hkl : k + 1 = zs.length := by omega
      have hN : Hid (une zs = none) := hide (by rw [hU, hd, hkl, List.drop_length, une_end]; rfl)
      have heq : ((k : Int) + 1 == (zs.length : Int)) = true := by rw [beq_iff_eq]; omega
      replace hkl := hide hkl
      clear hU hd hz
      go_wp2
      go_step3
      exact ⟨.inr (.inr ⟨rfl, JU2.mk ⟨hN.out, hb⟩⟩), by simp⟩
end Go.Proofs.Ytgnohomplehacaa
