/- The squares at the borders, as the model reckons them. -/
import Derived.Test.YtnhcmjfmfgoakaaD
import Derived.Deep.AppendLies
namespace Go.Proofs.Ytnhcmjfmfgoakaa
open Go.RowKit

theorem own_keep {w w' : World} {base e sz n : Nat} {v : Value} {xs : List Value} (h : w.ownsRow base e sz v n xs) (hb : Below w.heap.size w w') : w'.ownsRow base e sz v n xs := by
  obtain ⟨h1, h2⟩ := h
  refine ⟨h1, ?_⟩
  rcases h2 with h2 | ⟨g, cap, cur, hv, hg, hh, r⟩
  · exact .inl h2
  · exact .inr ⟨g, cap, cur, hv, hg, (hb.block g (lt_of_block hh)).trans hh, r⟩
theorem own_far {w w' : World} {base e sz n : Nat} {v : Value} {vs : List Value} {r : Option Nat} (h : w.ownsRow base e sz v n vs) (hg : w.grownBy w' r) (hne : ∀ k, v.ownBlock = some k → some k ≠ r) : w'.ownsRow base e sz v n vs := by
  refine h.kept hg ?_
  cases hv : v.ownBlock with
  | none => exact .inl rfl
  | some k => exact .inr (hne k hv)
theorem Bx3.grow {w w' : World} {b : Nat} {c0 c1 c2 : Value} {r : Option Nat} (h : Bx3 w b c0 c1 c2) (hg : w.grownBy w' r) (hne : some b ≠ r) : Bx3 w' b c0 c1 c2 :=
  ⟨(hg.cell_far _ (cell_lt h.1) hne).trans h.1, (hg.cell_far _ (cell_lt h.1) hne).trans h.2.1, (hg.cell_far _ (cell_lt h.1) hne).trans h.2.2⟩
theorem sqs_no {m : MotorV} {zs : List Int} (h : motorB m = false ∨ courseB zs = false) : sqs m zs = [] := by
  unfold sqs
  rcases h with h | h <;> simp [h]
theorem sqs_yes {m : MotorV} {zs : List Int} (h : motorB m = true) (g : courseB zs = true) : sqs m zs = (List.range (zs.length + 1)).map (sqAt m zs) := by
  unfold sqs
  simp [h, g]
/-- The list of the first k squares. -/
def sqTo (m : MotorV) (zs : List Int) (k : Nat) : List Int := (List.range k).map (sqAt m zs)
theorem sqTo_len (m : MotorV) (zs : List Int) (k : Nat) : (sqTo m zs k).length = k := by simp [sqTo]
theorem sqTo_succ (m : MotorV) (zs : List Int) (k : Nat) : sqTo m zs (k + 1) = sqTo m zs k ++ [sqAt m zs k] := by simp [sqTo, List.range_succ]
theorem Right.fold_in {m : MotorV} {zs : List Int} (R : Right m zs) (k : Nat) : ∀ j, 0 ≤ sqFold m zs k j ∧ sqFold m zs k j ≤ 8100 := by
  intro j
  induction j with
  | zero => exact ⟨R.capS_nn k, R.cap_le k⟩
  | succ j ih =>
    unfold sqFold
    have h1 := lo_le1 (sqFold m zs k j) (reach m zs k j)
    have h2 := lo_nn ih.1 (R.reach_nn k j)
    omega
theorem mul_in {a b A B : Int} (h0 : 0 ≤ a) (h1 : a ≤ A) (g0 : 0 ≤ b) (g1 : b ≤ B) : 0 ≤ a * b ∧ a * b ≤ A * B := ⟨Int.mul_nonneg h0 g0, Int.mul_le_mul h1 g1 g0 (by omega)⟩

set_option maxRecDepth 20000 in
set_option maxHeartbeats 3200000 in
theorem c19 (a : Option Addr) (cap : Nat) (m : MotorV) (zs : List Int) (w : World) (hz : Ints w a zs) (hl : zs.length ≤ 1048576) :
    Calls Try.prog 19 #[m.val, .slice a zs.length cap] w fun e w' => ∃ v, e = .returned v ∧ w'.ownsRow w.heap.size 3 1 v (sqs m zs).length ((sqs m zs).map (Value.int .i64)) ∧ Below w.heap.size w w' := by
  obtain ⟨i0, hi, hz0, hz1, hz2⟩ := info_parts info3
  cases hm : motorB m
  · have E := sqs_no (zs := zs) (.inl hm)
    rw [E]
    obtain ⟨u, d, t⟩ := m
    unfold MotorV.val
    go_enter Try.func19, Try.ntmps19
    go_wp2_with fail
    refine (c26 ⟨u, d, t⟩ _).mono ?_
    rintro e w1 ⟨rfl, hb⟩
    rw [hm]
    have HB := btrans (balloc _ _) hb
    clear hb
    go_wp2
    go_ret
    exact ⟨_, rfl, World.ownsRow_nil _ _ _ _, HB⟩
  cases hg : courseB zs
  · have E := sqs_no (m := m) (.inr hg)
    rw [E]
    obtain ⟨u, d, t⟩ := m
    unfold MotorV.val
    go_enter Try.func19, Try.ntmps19
    go_wp2_with fail
    refine (c26 ⟨u, d, t⟩ _).mono ?_
    rintro e w1 ⟨rfl, hb⟩
    rw [hm]
    have HB := btrans (balloc _ _) hb
    clear hb
    go_wp2_with fail
    refine (c51 a cap zs _ (hz.below HB) hl).mono ?_
    rintro e w2 ⟨rfl, hw⟩
    subst hw
    rw [hg]
    go_wp2
    go_ret
    exact ⟨_, rfl, World.ownsRow_nil _ _ _ _, HB⟩
  have R := Right.of hm hg
  have E := sqs_yes hm hg
  have E' : (sqs m zs).length = zs.length + 1 := by rw [E]; simp
  have EL : sqs m zs = sqTo m zs (zs.length + 1) := E
  rw [E', EL]
  clear E E' EL
  have n1 := R.n1
  have hS := fun k => hide (sqTo_succ m zs k)
  have hF0 := fun k => hide (show sqFold m zs k 0 = capS m.t zs k from rfl)
  have hF1 := fun k j => hide (show sqFold m zs k (j + 1) = lo (sqFold m zs k j) (reach m zs k j) from rfl)
  have hA : ∀ k, Hid (sqAt m zs k = sqFold m zs k (zs.length + 1)) := fun _ => rfl
  have hfin := R.fold_in
  have hcap := R.capS_nn
  have hcap2 := R.cap_le
  have hR1 := fun (k j : Nat) (h : j < k) => hide (show reach m zs k j = capS m.t zs j + m.u * ((k : Int) - j) by unfold reach; rw [if_pos h])
  have hR2 := fun (k j : Nat) (h : ¬ j < k) => hide (show reach m zs k j = capS m.t zs j + m.d * ((j : Int) - k) by unfold reach; rw [if_neg h])
  have u0 := R.u0
  have u1 := R.u1
  have d0 := R.d0
  have d1 := R.d1
  have CAP := fun (k : Nat) (hk : k ≤ zs.length) (w' : World) (hz' : Ints w' a zs) => c52 a cap k m zs w' R hz' hk
  clear R
  generalize hQ : sqTo m zs = Q at hS ⊢
  have hQ0 : Hid (Q 0 = []) := by show _ = _; rw [← hQ]; rfl
  generalize sqAt m zs = SA at hA hS
  generalize sqFold m zs = SF at hF0 hF1 hA hfin
  generalize reach m zs = RE at hF1 hR1 hR2
  generalize capS m.t zs = CS at hF0 hcap hcap2 hR1 hR2 CAP
  clear hQ
  obtain ⟨u, d, t⟩ := m
  unfold MotorV.val at *
  replace u0 : 1 ≤ u := u0
  replace u1 : u ≤ 200 := u1
  replace d0 : 1 ≤ d := d0
  replace d1 : d ≤ 400 := d1
  go_enter Try.func19, Try.ntmps19
  go_wp2_with fail
  refine (c26 ⟨u, d, t⟩ _).mono ?_
  rintro e w1 ⟨rfl, hb⟩
  rw [hm]
  have HB := btrans (balloc _ _) hb
  have X := Bx3.mk hb
  clear hb
  go_wp2_with fail
  refine (c51 a cap zs _ (hz.below HB) hl).mono ?_
  rintro e w2 ⟨rfl, hw⟩
  subst hw
  rw [hg]
  go_wp2
  have HB0 := btrans HB (balloc w2 (.cells #[] 3))
  have X0 := X.below (balloc w2 (.cells #[] 3))
  have hs2 := cell_lt X.1
  go_loopw [5, 6, 7, 8, 9] (fun v kk _ _ _ wr => ∃ k : Nat, k ≤ zs.length + 1 ∧ kk = .int .i64 k ∧ wr.ownsRow (w.heap.size + 1) 3 1 v k ((Q k).map (Value.int .i64)) ∧ Bx3 wr w.heap.size (.int .i64 u) (.int .i64 d) (.int .i64 t) ∧ Below w.heap.size w wr) (fun _ kk _ _ _ _ => zs.length + 1 - (intOf kk).toNat)
  case atStart => exact ⟨0, Nat.zero_le _, rfl, by rw [hQ0.out]; exact World.ownsRow_made w2 #[] 0 hs2 (by omega) rfl, X0, HB0⟩
  case round =>
    clear HB0 X0 HB X hs2
    obtain ⟨k, hk, rfl, hown, hX, hbel⟩ := hrel
    by_cases hlt : k ≤ zs.length
    · obtain ⟨b0, b1, b2⟩ := id hX
      go_wp2_with fail
      refine (CAP k hlt _ (hz.below hbel)).mono ?_
      rintro e w3 ⟨rfl, hb3⟩
      have hbel3 := btrans hbel hb3
      have hown3 := own_keep hown hb3
      have hX3 := hX.below hb3
      clear hbel hown hX hb3 b0 b1 b2
      go_wp2
      go_loopw [7, 8, 9] (fun bb jj _ wr' => ∃ j : Nat, j ≤ zs.length + 1 ∧ jj = .int .i64 j ∧ bb = .int .i64 (SF k j) ∧ wr'.ownsRow (w.heap.size + 1) 3 1 u5 k ((Q k).map (Value.int .i64)) ∧ Bx3 wr' w.heap.size (.int .i64 u) (.int .i64 d) (.int .i64 t) ∧ Below w.heap.size w wr') (fun _ jj _ _ => zs.length + 1 - (intOf jj).toNat)
      case atStart => exact ⟨0, Nat.zero_le _, rfl, by rw [(hF0 k).out], hown3, hX3, hbel3⟩
      case round =>
        clear hown3 hX3 hbel3
        obtain ⟨j, hj, rfl, rfl, hown, hX, hbel⟩ := hrel
        by_cases hjlt : j ≤ zs.length
        · obtain ⟨b0, b1, b2⟩ := id hX
          go_wp2_with fail
          refine (CAP j hjlt _ (hz.below hbel)).mono ?_
          rintro e w4 ⟨rfl, hb4⟩
          have hbel4 := btrans hbel hb4
          have hown4 := own_keep hown hb4
          have hX4 := hX.below hb4
          clear hbel hown hX hb4 b0 b1 b2
          obtain ⟨b0, b1, b2⟩ := id hX4
          have f1 := hfin k j
          have c1 := hcap j
          have c2 := hcap2 j
          have hstep := hF1 k j
          by_cases hjk : j < k
          · have hre := hR1 k j hjk
            obtain ⟨p1, p2⟩ := mul_in (a := u) (A := 200) (b := (k : Int) - j) (B := 200) (by omega) u1 (by omega) (by omega)
            have e1 : IntKind.i64.wrap (u * ((k : Int) - j)) = u * ((k : Int) - j) := wrap_in _ (by omega) (by omega)
            have e2 : IntKind.i64.wrap (CS j + u * ((k : Int) - j)) = RE k j := (wrap_in _ (by omega) (by omega)).trans hre.out.symm
            generalize RE k j = X at *
            generalize SF k j = Y at *
            clear hre
            by_cases hlo : X < Y
            · have hY : Hid (SF k (j + 1) = X) := by show _ = _; rw [hstep.out]; simp [lo, hlo]
              go_wp2
              go_roundw
              case rel => exact ⟨j + 1, by omega, by go_num, by rw [hY.out], hown4, hX4, hbel4⟩
              case measure => simp [intOf]; omega
            · have hY : Hid (SF k (j + 1) = Y) := by show _ = _; rw [hstep.out]; simp [lo, hlo]
              go_wp2
              go_roundw
              case rel => exact ⟨j + 1, by omega, by go_num, by rw [hY.out], hown4, hX4, hbel4⟩
              case measure => simp [intOf]; omega
          · have hre := hR2 k j hjk
            obtain ⟨p1, p2⟩ := mul_in (a := d) (A := 400) (b := (j : Int) - k) (B := 200) (by omega) d1 (by omega) (by omega)
            have e1 : IntKind.i64.wrap (d * ((j : Int) - k)) = d * ((j : Int) - k) := wrap_in _ (by omega) (by omega)
            have e2 : IntKind.i64.wrap (CS j + d * ((j : Int) - k)) = RE k j := (wrap_in _ (by omega) (by omega)).trans hre.out.symm
            generalize RE k j = X at *
            generalize SF k j = Y at *
            clear hre
            by_cases hlo : X < Y
            · have hY : Hid (SF k (j + 1) = X) := by show _ = _; rw [hstep.out]; simp [lo, hlo]
              go_wp2
              go_roundw
              case rel => exact ⟨j + 1, by omega, by go_num, by rw [hY.out], hown4, hX4, hbel4⟩
              case measure => simp [intOf]; omega
            · have hY : Hid (SF k (j + 1) = Y) := by show _ = _; rw [hstep.out]; simp [lo, hlo]
              go_wp2
              go_roundw
              case rel => exact ⟨j + 1, by omega, by go_num, by rw [hY.out], hown4, hX4, hbel4⟩
              case measure => simp [intOf]; omega
        · obtain rfl : j = zs.length + 1 := by omega
          have HM : Hid (Q (k + 1) = Q k ++ [SF k (zs.length + 1)]) := by show _ = _; rw [(hS k).out, (hA k).out]
          generalize SF k (zs.length + 1) = Y at *
          have hsz := hbel.size
          have hsz2 := cell_lt hX.1
          go_wp2_with (at_builtin; refine wpList_append_own _ rfl _ _ 26 rfl (w.heap.size + 1) 3 i0 (.int .i64 0) 1 8 Try.underlying26 hi hz0 hz1 hz2 rfl (by decide) _ _ _ rfl (hown.alloc _) ⟨wr.heap.size, 0, none⟩ 1 1 [.int .i64 Y] rfl rfl ?c1 ?c2 ?c3 ?c4 ?c5 ?_)
          case c1 =>
            intro j u hj
            match j, hj with
            | 0, hj => simp at hj; subst hj; simp [Addr.add]
          case c2 => intro u hu; simp at hu; subst hu; rfl
          case c3 => unfold maxLen; omega
          case c4 => omega
          case c5 => simp; omega
          intro v' w5 hown' hgrow _
          have hbel' : Below w.heap.size w w5 := (hbel.alloc hsz _).grown hgrow (by simp; omega) (fun j e => by
            rcases hown.2 with ⟨rfl, _⟩ | ⟨g, cap', cur, rfl, hg, _⟩
            · simp [Value.ownBlock] at e
            · simp [Value.ownBlock] at e; omega)
          have hX' : Bx3 w5 w.heap.size (.int .i64 u) (.int .i64 d) (.int .i64 t) := (hX.below (balloc _ _)).grow hgrow (by
            rcases hown.2 with ⟨rfl, _⟩ | ⟨g, cap', cur, rfl, hg, _⟩
            · simp [Value.ownBlock]
            · simp [Value.ownBlock]; omega)
          have hown2 : w5.ownsRow (w.heap.size + 1) 3 1 v' (k + 1) ((Q (k + 1)).map (Value.int .i64)) := by
            rw [HM.out, List.map_append]; exact hown'
          clear hown hown' hgrow hbel hX
          go_wp2
          go_roundw
          case rel => exact ⟨k + 1, by omega, by go_num, hown2, hX', hbel'⟩
          case measure => simp [intOf]; omega
    · obtain rfl : k = zs.length + 1 := by omega
      go_wp2
      go_ret
      exact ⟨_, rfl, Go.Joins.ownsRow_le hown (by omega), hbel⟩
end Go.Proofs.Ytnhcmjfmfgoakaa
