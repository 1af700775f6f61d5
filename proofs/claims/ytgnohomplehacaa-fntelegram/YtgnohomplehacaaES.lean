/- Loads escaped and read back: the program's, with its jumps. -/
import Derived.Test.YtgnohomplehacaaMT
import Derived.Test.YtgnohomplehacaaCC
import Derived.ScopeJumps
import Derived.WalkMore
namespace Go.Proofs.Ytgnohomplehacaa
open Go.RowKit
/-- As Q; by a goto to label l: J l. -/
def exitJumps (J : Nat → Act → World → Prop) (Q : Exit → Act → World → Prop) : Exit → Act → World → Prop
  | .goto l, a, w => J l a w
  | e, a, w => Q e a w
theorem wp_scope_labels {P : Program} {a : Act} {w : World} {Q : Exit → Act → World → Prop} {c : Code} (rest : Nat → Code) (J : Nat → Act → World → Prop) (μ : Nat → Act → World → Nat) (hf : ∀ l a w, J l a w → findLabel c l = some (rest l))
    (first : c.wp P (exitJumps J Q) a w)
    (pass : ∀ l a w, J l a w → (rest l).wp P (exitJumps (fun l' a' w' => J l' a' w' ∧ μ l' a' w' < μ l a w) Q) a w) : (Code.scope c).wp P Q a w := by
  intro b k cs
  have hg : ∀ l a w, J l a w → gotoIn l (.inScope c :: k) = some (.code (rest l) :: .inScope c :: k) := fun l a w h => by simp [gotoIn, hf l a w h]
  have key : ∀ n l a w, μ l a w = n → J l a w → ∃ e a' w', Q e a' w' ∧ Arrives P (lone (b.at a (.code (rest l) :: .inScope c :: k)) cs w) b k cs e a' w' := by
    intro n
    induction n using Nat.strongRecOn with
    | _ n ih =>
      intro l a w hn hJ
      obtain ⟨e, a₁, w₁, hq, harr⟩ := pass l a w hJ b (.inScope c :: k) cs
      cases e with
      | normal => exact ⟨.normal, a₁, w₁, hq, Steps.trans harr (.one step_inScope)⟩
      | exit id => exact ⟨.exit id, a₁, w₁, hq, fun k' hk => harr k' (by simp [exitTo, hk])⟩
      | goto l' =>
        obtain ⟨hJ', hlt⟩ := hq
        obtain ⟨e₂, a₂, w₂, hq₂, harr₂⟩ := ih _ (by omega) l' a₁ w₁ rfl hJ'
        exact ⟨e₂, a₂, w₂, hq₂, .of_steps (harr _ (hg l' a₁ w₁ hJ')) harr₂⟩
      | ret => exact ⟨_, a₁, w₁, hq, harr⟩
      | panic ch => exact ⟨_, a₁, w₁, hq, harr⟩
      | outgrown => exact ⟨_, a₁, w₁, hq, harr⟩
  obtain ⟨e, a₁, w₁, hq, harr⟩ := first b (.inScope c :: k) cs
  cases e with
  | normal => exact ⟨.normal, a₁, w₁, hq, .head step_scope (Steps.trans harr (.one step_inScope))⟩
  | exit id => exact ⟨.exit id, a₁, w₁, hq, fun k' hk => .head step_scope (harr k' (by simp [exitTo, hk]))⟩
  | goto l' =>
    obtain ⟨e₂, a₂, w₂, hq₂, harr₂⟩ := key _ l' a₁ w₁ rfl hq
    exact ⟨e₂, a₂, w₂, hq₂, .of_steps (.head step_scope (harr _ (hg l' a₁ w₁ hq))) harr₂⟩
  | ret => exact ⟨_, a₁, w₁, hq, .of_steps (.one step_scope) harr⟩
  | panic ch => exact ⟨_, a₁, w₁, hq, .of_steps (.one step_scope) harr⟩
  | outgrown => exact ⟨_, a₁, w₁, hq, .of_steps (.one step_scope) harr⟩
theorem wp_scope_many {P : Program} {a : Act} {w : World} {Q : Exit → Act → World → Prop} {c : Code} (rest : Nat → Code) (J : Nat → Act → World → Prop) (μ : Nat → Act → World → Nat) (hf : ∀ l a w, J l a w → findLabel c l = some (.seq .skip (rest l)))
    (pass : ∀ l a w, J l a w → (rest l).wp P (exitJumps (fun l' a' w' => J l' a' w' ∧ μ l' a' w' < μ l a w) Q) a w)
    (first : (∀ l a w, J l a w → (rest l).wp P (exitJumps J Q) a w) → c.wp P (exitJumps J Q) a w) : (Code.scope c).wp P Q a w := by
  refine wp_scope_labels (fun l => .seq .skip (rest l)) J μ hf (first fun l a w h => Code.wp_mono ?_ (pass l a w h)) (fun l a w h => wp_seq (wp_skip (pass l a w h)))
  intro e a w h
  cases e with
  | goto l' => exact h.1
  | _ => exact h
def two (J0 J1 : Act → World → Prop) (l : Nat) (a : Act) (w : World) : Prop := (l = 0 ∧ J0 a w) ∨ (l = 1 ∧ J1 a w)
def three (J0 J1 J2 : Act → World → Prop) (l : Nat) (a : Act) (w : World) : Prop := (l = 0 ∧ J0 a w) ∨ (l = 1 ∧ J1 a w) ∨ (l = 2 ∧ J2 a w)
theorem wp_scope_2 {P : Program} {a : Act} {w : World} {Q : Exit → Act → World → Prop} {c r0 r1 : Code} (J0 J1 : Act → World → Prop) (μ : Nat → Act → World → Nat) (h0 : findLabel c 0 = some (.seq .skip r0)) (h1 : findLabel c 1 = some (.seq .skip r1))
    (pass0 : ∀ a w, J0 a w → r0.wp P (exitJumps (fun l' a' w' => two J0 J1 l' a' w' ∧ μ l' a' w' < μ 0 a w) Q) a w)
    (pass1 : ∀ a w, J1 a w → r1.wp P (exitJumps (fun l' a' w' => two J0 J1 l' a' w' ∧ μ l' a' w' < μ 1 a w) Q) a w)
    (first : (∀ a w, J0 a w → r0.wp P (exitJumps (two J0 J1) Q) a w) → c.wp P (exitJumps (two J0 J1) Q) a w) : (Code.scope c).wp P Q a w := by
  refine wp_scope_many (fun l => if l = 0 then r0 else r1) (two J0 J1) μ ?_ ?_ (fun h => first fun a w hJ => h 0 a w (.inl ⟨rfl, hJ⟩))
  · rintro l a w (⟨rfl, -⟩ | ⟨rfl, -⟩)
    · exact h0
    · exact h1
  · rintro l a w (⟨rfl, h⟩ | ⟨rfl, h⟩)
    · exact pass0 a w h
    · exact pass1 a w h
theorem wp_scope_3 {P : Program} {a : Act} {w : World} {Q : Exit → Act → World → Prop} {c r0 r1 r2 : Code} (J0 J1 J2 : Act → World → Prop) (μ : Nat → Act → World → Nat) (h0 : findLabel c 0 = some (.seq .skip r0)) (h1 : findLabel c 1 = some (.seq .skip r1)) (h2 : findLabel c 2 = some (.seq .skip r2))
    (pass0 : ∀ a w, J0 a w → r0.wp P (exitJumps (fun l' a' w' => three J0 J1 J2 l' a' w' ∧ μ l' a' w' < μ 0 a w) Q) a w)
    (pass1 : ∀ a w, J1 a w → r1.wp P (exitJumps (fun l' a' w' => three J0 J1 J2 l' a' w' ∧ μ l' a' w' < μ 1 a w) Q) a w)
    (pass2 : ∀ a w, J2 a w → r2.wp P (exitJumps (fun l' a' w' => three J0 J1 J2 l' a' w' ∧ μ l' a' w' < μ 2 a w) Q) a w)
    (first : (∀ a w, J0 a w → r0.wp P (exitJumps (three J0 J1 J2) Q) a w) → c.wp P (exitJumps (three J0 J1 J2) Q) a w) : (Code.scope c).wp P Q a w := by
  refine wp_scope_many (fun l => if l = 0 then r0 else if l = 1 then r1 else r2) (three J0 J1 J2) μ ?_ ?_ (fun h => first fun a w hJ => h 0 a w (.inl ⟨rfl, hJ⟩))
  · rintro l a w (⟨rfl, -⟩ | ⟨rfl, -⟩ | ⟨rfl, -⟩)
    · exact h0
    · exact h1
    · exact h2
  · rintro l a w (⟨rfl, h⟩ | ⟨rfl, h⟩ | ⟨rfl, h⟩)
    · exact pass0 a w h
    · exact pass1 a w h
    · exact pass2 a w h
def slotOf (A : Act) (i : Nat) : Nat := (intOf (A.tmps.toList.getD i (.bool false))).toNat
theorem cMust (x : Int) (w : World) : Calls Try.prog 64 #[.int .u8 x] w fun e w' => e = .returned (.bool (mustB x)) ∧ w' = w := by
  by_cases h1 : x = 126
  · subst h1
    go_enter Try.func64, Try.ntmps64
    go_wp2
    go_ret
    exact ⟨rfl, rfl⟩
  by_cases h2 : x = 125
  · subst h2
    go_enter Try.func64, Try.ntmps64
    go_wp2
    go_ret
    exact ⟨rfl, rfl⟩
  · have E : Hid (mustB x = false) := hide (by simp [mustB, h1, h2])
    go_enter Try.func64, Try.ntmps64
    go_wp2
    go_ret
    exact ⟨ret_bool (by rw [E.out]; simp [h1, h2]), rfl⟩
theorem esc_take (zs : List Int) {k : Nat} (hk : k < zs.length) : esc (zs.take (k + 1)) = esc (zs.take k) ++ escB (zs.getD k 0) := by
  rw [List.take_succ_eq_append_getElem hk, esc_snoc]
  simp [List.getD, hk]
theorem esc_take_len (zs : List Int) (k : Nat) (hk : k ≤ zs.length) : (esc (zs.take k)).length ≤ 2 * zs.length := by
  have := (esc_len (zs.take k)).2
  simp at this
  omega
def JE0 (w : World) (a : Option Addr) (c : Nat) (zs : List Int) (A : Act) (W : World) : Prop := ∃ (f : Nat → Value) (k n : Nat) (v : Value), A = { tmps := List.toArray (.slice a zs.length c :: f 1 :: f 2 :: v :: f 4 :: .int .i64 (k : Int) :: f 6 :: f 7 :: f 8 :: f 9 :: f 10 :: f 11 :: f 12 :: f 13 :: f 14 :: f 15 :: f 16 :: f 17 :: f 18 :: f 19 :: f 20 :: f 21 :: f 22 :: f 23 :: f 24 :: f 25 :: f 26 :: f 27 :: []), defers := [] } ∧ k ≤ zs.length ∧ n = (esc (zs.take k)).length ∧ W.ownsRow w.heap.size 5 1 v n (enc8 (esc (zs.take k))) ∧ Below w.heap.size w W
set_option maxRecDepth 1000000 in
theorem JE0.mk {w W : World} {a : Option Addr} {c : Nat} {zs : List Int} {x1 x2 x4 x6 x7 x8 x9 x10 x11 x12 x13 x14 x15 x16 x17 x18 x19 x20 x21 x22 x23 x24 x25 x26 x27 : Value} {k n : Nat} {v : Value} (h : k ≤ zs.length ∧ n = (esc (zs.take k)).length ∧ W.ownsRow w.heap.size 5 1 v n (enc8 (esc (zs.take k))) ∧ Below w.heap.size w W) : JE0 w a c zs { tmps := List.toArray (.slice a zs.length c :: x1 :: x2 :: v :: x4 :: .int .i64 (k : Int) :: x6 :: x7 :: x8 :: x9 :: x10 :: x11 :: x12 :: x13 :: x14 :: x15 :: x16 :: x17 :: x18 :: x19 :: x20 :: x21 :: x22 :: x23 :: x24 :: x25 :: x26 :: x27 :: []), defers := [] } W :=
  ⟨(fun i => [.bool false, x1, x2, .bool false, x4, .bool false, x6, x7, x8, x9, x10, x11, x12, x13, x14, x15, x16, x17, x18, x19, x20, x21, x22, x23, x24, x25, x26, x27].getD i (.bool false)), k, n, v, rfl, h⟩
def JE1 (w : World) (a : Option Addr) (c : Nat) (zs : List Int) (A : Act) (W : World) : Prop := ∃ (f : Nat → Value) (k n : Nat) (v : Value), A = { tmps := List.toArray (.slice a zs.length c :: f 1 :: f 2 :: v :: .int .u8 (zs.getD k 0) :: .int .i64 ((k : Int) + 1) :: f 6 :: f 7 :: f 8 :: f 9 :: f 10 :: f 11 :: f 12 :: f 13 :: f 14 :: f 15 :: f 16 :: f 17 :: f 18 :: f 19 :: f 20 :: f 21 :: f 22 :: f 23 :: f 24 :: f 25 :: f 26 :: f 27 :: []), defers := [] } ∧ k < zs.length ∧ mustB (zs.getD k 0) = true ∧ n = (esc (zs.take k)).length ∧ W.ownsRow w.heap.size 5 1 v n (enc8 (esc (zs.take k))) ∧ Below w.heap.size w W
set_option maxRecDepth 1000000 in
theorem JE1.mk {w W : World} {a : Option Addr} {c : Nat} {zs : List Int} {x1 x2 x6 x7 x8 x9 x10 x11 x12 x13 x14 x15 x16 x17 x18 x19 x20 x21 x22 x23 x24 x25 x26 x27 : Value} {k n : Nat} {v : Value} (h : k < zs.length ∧ mustB (zs.getD k 0) = true ∧ n = (esc (zs.take k)).length ∧ W.ownsRow w.heap.size 5 1 v n (enc8 (esc (zs.take k))) ∧ Below w.heap.size w W) : JE1 w a c zs { tmps := List.toArray (.slice a zs.length c :: x1 :: x2 :: v :: .int .u8 (zs.getD k 0) :: .int .i64 ((k : Int) + 1) :: x6 :: x7 :: x8 :: x9 :: x10 :: x11 :: x12 :: x13 :: x14 :: x15 :: x16 :: x17 :: x18 :: x19 :: x20 :: x21 :: x22 :: x23 :: x24 :: x25 :: x26 :: x27 :: []), defers := [] } W :=
  ⟨(fun i => [.bool false, x1, x2, .bool false, .bool false, .bool false, x6, x7, x8, x9, x10, x11, x12, x13, x14, x15, x16, x17, x18, x19, x20, x21, x22, x23, x24, x25, x26, x27].getD i (.bool false)), k, n, v, rfl, h⟩
set_option maxRecDepth 1000000 in
set_option maxHeartbeats 6400000 in
theorem cEsc (a : Option Addr) (c : Nat) (zs : List Int) (w : World) (hz : Bys w a zs) (hl : zs.length ≤ 1048576) :
    Calls Try.prog 49 #[.slice a zs.length c] w fun e w' => ∃ v, e = .returned v ∧ w'.ownsRow w.heap.size 5 1 v (esc zs).length (enc8 (esc zs)) ∧ Below w.heap.size w w' := by
  go_enter Try.func49, Try.ntmps49
  go_wp2
  refine wp_scope_2 (JE0 w a c zs) (JE1 w a c zs) (fun l A _ => 2 * (zs.length - slotOf A 5) + (if l = 0 then 1 else 2)) rfl rfl ?pass0 ?pass1 ?first
  case first =>
    intro hp
    go_wp2
    go_step3
    rename_i K hK
    exact hK _ _ (hp _ _ (JE0.mk (k := 0) ⟨Nat.zero_le _, rfl, by simpa [esc] using World.ownsRow_nil _ _ _ _, Below.refl _ _⟩))
  case pass0 =>
    rintro A W ⟨f, k, n, v, rfl, hk, hn, ho, hb⟩
    · have hB := hb.size
      by_cases hlt : k < zs.length
      · have hne : ¬ ((k : Int) = (zs.length : Int)) := by omega
        have hz2 := hz.below hb
        rcases hz2 with hz2 | ⟨b, off, rfl, hcell⟩
        · simp [hz2] at hlt
        have hck := hcell k hlt
        have st := hide (esc_take zs hlt)
        have hln := esc_take_len zs k hk
        rw [← hn] at hln
        clear hcell
        generalize hZ : zs.getD k 0 = z at *
        replace hZ := hide hZ
        have CM := cMust z W
        cases hm : mustB z
        · obtain ⟨v2, w2, hrun, hrow, hgrow, -⟩ := app_one z hn.symm ho (by omega) hB
          have hb2 := below_app hb hB ho hgrow
          have E : Hid (esc (zs.take (k + 1)) = esc (zs.take k) ++ [z]) := hide (by rw [st.out, escB, hm]; rfl)
          rw [hm] at CM
          obtain ⟨va, vc, rfl⟩ := own_form ho
          replace hn := hide hn
          go_wp2_with fail
          refine CM.mono ?_
          rintro e w1 ⟨rfl, hw⟩
          subst w1
          obtain ⟨va2, vc2, rfl⟩ := own_form hrow
          clear ho hgrow hck hb CM
          go_wp2_with (at_builtin; refine Go.Lib.wpList_append_run _ rfl _ _ _ _ rfl _ _ rfl rfl _ _ hrun ?_)
          go_step3
          exact ⟨.inl ⟨rfl, JE0.mk (k := k + 1) ⟨hlt, by rw [E.out, List.length_append, ← hn.out], by rw [E.out]; exact hrow, hb2⟩⟩, by simp [slotOf, intOf]; omega⟩
        · rw [hm] at CM
          obtain ⟨va, vc, rfl⟩ := own_form ho
          replace hn := hide hn
          go_wp2_with fail
          refine CM.mono ?_
          rintro e w1 ⟨rfl, hw⟩
          subst w1
          go_wp2
          go_step3
          refine ⟨.inr ⟨rfl, ?_⟩, by simp [slotOf, intOf]; omega⟩
          rw [← hZ.out]
          exact JE1.mk ⟨hlt, by rw [hZ.out]; exact hm, hn.out, ho, hb⟩
      · obtain rfl : k = zs.length := by omega
        rw [List.take_length] at hn ho
        subst hn
        clear hz
        go_wp2
        dsimp only [exitJumps]
        go_ret
        exact ⟨_, rfl, ho, hb⟩
  case pass1 =>
    rintro A W ⟨f, k, n, v, rfl, hk, hm, hn, ho, hb⟩
    · have hB := hb.size
      have st := hide (esc_take zs hk)
      have hln := esc_take_len zs k (by omega)
      rw [← hn] at hln
      generalize hZ : zs.getD k 0 = z at *
      replace hZ := hide hZ
      obtain ⟨v2, w2, hrun, hrow, hgrow, -⟩ := app_two 125 (x32 z) hn.symm ho (by omega) hB
      have hb2 := below_app hb hB ho hgrow
      have E : Hid (esc (zs.take (k + 1)) = esc (zs.take k) ++ [125, x32 z]) := hide (by rw [st.out, escB, hm]; rfl)
      have EX : bits .xor .u8 z 32 = x32 z := rfl
      obtain ⟨va, vc, rfl⟩ := own_form ho
      obtain ⟨va2, vc2, rfl⟩ := own_form hrow
      replace hn := hide hn
      clear ho hgrow hb
      go_wp2_with (at_builtin; refine Go.Lib.wpList_append_run _ rfl _ _ _ _ rfl _ _ rfl rfl _ _ hrun ?_)
      go_step3
      exact ⟨.inl ⟨rfl, JE0.mk (k := k + 1) ⟨hk, by rw [E.out, List.length_append, ← hn.out], by rw [E.out]; exact hrow, hb2⟩⟩, by simp [slotOf, intOf]⟩
end Go.Proofs.Ytgnohomplehacaa
