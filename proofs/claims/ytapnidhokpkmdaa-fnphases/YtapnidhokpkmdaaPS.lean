/- Phases of the model. -/
import Derived.Test.YtapnidhokpkmdaaPI
namespace Go.Proofs.Ytapnidhokpkmdaa
open Go.RowKit

theorem phB_no1 {fs : List Int} {qs : List Bool} (h : 40 < fs.length) : phB fs qs = false := by
  cases e : phB fs qs
  · rfl
  · obtain ⟨h1, -⟩ := (phB_iff fs qs).1 e; omega
theorem phB_no2 {fs : List Int} {qs : List Bool} (h : qs.length ≠ fs.length - 1) : phB fs qs = false := by
  cases e : phB fs qs
  · rfl
  · obtain ⟨-, -, h1⟩ := (phB_iff fs qs).1 e; omega
theorem phB_no3 {fs : List Int} {qs : List Bool} {k : Nat} (hk : k < fs.length) (h : inB (fs.getD k 0) 0 3 = false) : phB fs qs = false := by
  cases e : phB fs qs
  · rfl
  · obtain ⟨-, h1, -⟩ := (phB_iff fs qs).1 e
    rw [List.all_eq_true] at h1
    have := h1 fs[k] (List.getElem_mem hk)
    rw [show fs.getD k 0 = fs[k] by simp [List.getD, hk]] at h
    rw [h] at this; cases this
theorem AnsI.no {w w' : World} {fs : List Int} {qs : List Bool} (h : phB fs qs = false) (hb : Below w.heap.size w w') : AnsI w (phC fs qs) (.returned (.slice none 0 0)) w' := by
  rw [phC_no h]
  exact ⟨_, rfl, World.ownsRow_nil _ _ _ _, hb⟩
theorem IsLo.start (c : Nat → Bool) (i : Nat) : ∀ j, i ≤ j → j < i → c j = true := fun j h1 h2 => by omega
theorem one_block' (w : World) (o : Obj) : (w.alloc o).heap[w.heap.size]? = some o := by
  show (w.heap.push o)[w.heap.size]? = _
  rw [Array.getElem?_push, if_pos rfl]
theorem sgm_succ (f : Nat → Int) (a m : Nat) : sgm f a (m + 1) = jn (sgm f a m) (f (a + m)) := rfl
theorem rng_succ (n : Nat) (f : Nat → Int) : (((List.range (n + 1)).map f).map (Value.int .i64)) = (((List.range n).map f).map (Value.int .i64)) ++ [.int .i64 (f n)] := by simp [List.range_succ]

set_option maxRecDepth 20000 in
set_option maxHeartbeats 12800000 in
theorem cPhS (a b : Option Addr) (c d : Nat) (fs : List Int) (qs : List Bool) (w : World) (hf : Ints w a fs) (hq : Bools w b qs) (lf : fs.length ≤ 1048576) (lq : qs.length ≤ 1048576) :
    Calls Try.prog 32 #[.slice a fs.length c, .slice b qs.length d] w (AnsI w (phC fs qs)) := by
  by_cases h40 : 40 < fs.length
  · have hno := phB_no1 (qs := qs) h40
    have h41 : (40 : Int) < fs.length := by omega
    clear h40
    go_enter Try.func32, Try.ntmps32
    go_wp2
    go_ret
    exact AnsI.no hno (Below.refl _ _)
  have h41 : ¬ (40 : Int) < fs.length := by omega
  have w1 : IntKind.i64.wrap ((fs.length : Int) - 1) = (fs.length : Int) - 1 := wrap_in _ (by omega) (by omega)
  by_cases hl : qs.length = fs.length - 1
  rotate_left
  · have hno := phB_no2 hl
    by_cases h0 : fs.length = 0
    · have g0 : ¬ (0 : Int) < fs.length := by omega
      have g1 : ((fs.length : Int) == 0) = true := by rw [beq_iff_eq]; omega
      have g2 : (0 : Int) < qs.length := by omega
      have g3 : decide ((0 : Int) < (qs.length : Int)) = true := decide_eq_true g2
      clear h0 h40 hl
      go_enter Try.func32, Try.ntmps32
      go_wp2
      go_ret
      exact AnsI.no hno (Below.refl _ _)
    · have g0 : (0 : Int) < fs.length := by omega
      have g1 : ((qs.length : Int) != (fs.length : Int) - 1) = true := by simp; omega
      clear h0 h40 hl
      go_enter Try.func32, Try.ntmps32
      go_wp2
      go_ret
      exact AnsI.no hno (Below.refl _ _)
  obtain ⟨n, hn⟩ : ∃ n, fs.length = n := ⟨_, rfl⟩
  obtain ⟨m, hm⟩ : ∃ m, qs.length = m := ⟨_, rfl⟩
  have HN := hide hn
  have HM := hide hm
  have HMN : Hid (m = n - 1) := hide (by omega)
  rw [hn, hm]
  rw [hn] at h41 w1
  have h42 : n ≤ 40 := by omega
  have hm40 : m ≤ 40 := by omega
  clear hn hm h40 lf lq hl
  by_cases h0 : n = 0
  · subst h0
    obtain rfl : m = 0 := HMN.out
    have hfs : fs = [] := List.length_eq_zero_iff.1 HN.out
    have hqs : qs = [] := List.length_eq_zero_iff.1 HM.out
    have hP : AnsI w (phC fs qs) (.returned (.slice (some ⟨w.heap.size, 0, none⟩) 0 0)) (w.alloc (.cells #[] 3)) := by
      subst hfs hqs
      exact ⟨_, rfl, World.ownsRow_made w #[] 0 (Nat.le_refl _) (by unfold maxLen; omega) rfl, balloc _ _⟩
    clear hf hq hfs hqs
    go_enter Try.func32, Try.ntmps32
    go_wp2
    go_loop [5] (fun i => i = .int .i64 0) (fun _ => 0)
    case atStart => rfl
    case round =>
      subst hrel
      go_wp2
      go_loop [6, 7, 8, 9, 10, 11] (fun v i _ _ _ _ => v = .slice (some ⟨w.heap.size, 0, none⟩) 0 0 ∧ i = .int .i64 0) (fun _ _ _ _ _ _ => 0)
      case atStart => exact ⟨rfl, rfl⟩
      case round =>
        obtain ⟨rfl, rfl⟩ := hrel
        go_wp2
        go_ret
        exact hP
  have g0 : (0 : Int) < n := by omega
  have g1 : ((m : Int) != (n : Int) - 1) = false := by have := HMN.out; simp; omega
  have g2 : ((n : Int) == 0) = false := by simp; omega
  have hn0 : 0 < n := by omega
  obtain ⟨qb, qo, hbq, hqc⟩ : ∃ qb qo, Hid (0 < m → b = some ⟨qb, qo, none⟩) ∧ Hid (∀ x, x < m → w.cell? ⟨qb, qo + x, none⟩ = some (.bool (cA qs x))) := by
    rcases hq with h | ⟨qb, qo, h, h1⟩
    · have : m = 0 := by rw [← HM.out, h]; rfl
      exact ⟨0, 0, hide (fun h9 => by omega), hide (fun x h9 => by omega)⟩
    · exact ⟨qb, qo, hide (fun _ => h), hide (fun x h9 => h1 x (by have := HM.out; omega))⟩
  clear h0 hq
  go_enter Try.func32, Try.ntmps32
  go_wp2
  go_loop [5] (fun i => ∃ k : Nat, k ≤ n ∧ i = .int .i64 k ∧ (fs.take k).all (fun x => inB x 0 3) = true) (fun i => n - (intOf i).toNat)
  case atStart => exact ⟨0, Nat.zero_le _, rfl, by simp⟩
  case round =>
    obtain ⟨k, hk, rfl, hA⟩ := hrel
    by_cases hlt : k < n
    · have hkf : k < fs.length := by have := HN.out; omega
      rcases hf with h | ⟨fb, fo, rfl, hfc⟩
      · simp [h] at hkf
      have p0 := hfc k hkf
      have e1 : fs.getD k 0 = fs[k] := by simp [List.getD, hkf]
      have G1 := hide (fun h => all_step (P := fun x => inB x 0 3) hkf hA h)
      have G0 := hide (fun h => phB_no3 (qs := qs) hkf h)
      rw [e1] at p0 G0
      clear hA e1 hfc
      generalize fs[k] = x at *
      go_wp2_with fail
      refine (cIn x 0 3 _).mono ?_
      rintro e w9 ⟨rfl, hw⟩
      subst w9
      cases hg : inB x 0 3
      · have hB := G0.out hg
        clear G0 G1 hg
        go_wp2
        go_ret
        exact AnsI.no hB (Below.refl _ _)
      · have hB := G1.out hg
        clear G0 G1 hg
        go_wp2
        go_round
        case rel => exact ⟨k + 1, by omega, by go_num, hB⟩
        case measure => simp [intOf]; omega
    · obtain rfl : k = n := by omega
      have hok : phB fs qs = true := (phB_iff fs qs).2 ⟨by have := HN.out; omega, by rw [← HN.out, List.take_length] at hA; exact hA, by have := HN.out; have := HM.out; have := HMN.out; omega⟩
      have hC := hide (phC_yes hok)
      rw [HN.out] at hC
      have O0 : (w.alloc (.cells #[] 3)).ownsRow w.heap.size 3 1 (.slice (some ⟨w.heap.size, 0, none⟩) 0 0) 0 (((List.range 0).map (ph (fA fs) (cA qs) k)).map (Value.int .i64)) := World.ownsRow_made w #[] 0 (Nat.le_refl _) (by unfold maxLen; omega) rfl
      have hb0 := balloc w (.cells #[] 3)
      obtain ⟨i0, hi, hz0, hz1, hz2⟩ := infoI2
      clear hA hok
      go_wp2
      go_loopw [6, 7, 8, 9, 10, 11] (fun v i _ _ _ _ wr => ∃ j : Nat, j ≤ k ∧ i = .int .i64 j ∧ wr.ownsRow w.heap.size 3 1 v j (((List.range j).map (ph (fA fs) (cA qs) k)).map (Value.int .i64)) ∧ Below w.heap.size w wr) (fun _ i _ _ _ _ _ => k - (intOf i).toNat)
      case atStart => exact ⟨0, Nat.zero_le _, rfl, O0, hb0⟩
      case round =>
        clear O0 hb0
        obtain ⟨j, hj, rfl, O, hb⟩ := hrel
        obtain ⟨va, vc, rfl⟩ := own_form O
        by_cases hlt2 : j < k
        · have hmk : Hid (m + 1 = k) := hide (by have := HMN.out; omega)
          generalize wr = wo at *
          go_wp2
          go_loop [8] (fun x => ∃ x0 : Nat, x = .int .i64 x0 ∧ x0 ≤ j ∧ ∀ t, x0 ≤ t → t < j → cA qs t = true) (fun x => (intOf x).toNat)
          case atStart => exact ⟨j, rfl, Nat.le_refl _, IsLo.start _ _⟩
          case round =>
            obtain ⟨A0, rfl, hxj, hxa⟩ := hrel
            by_cases hA0 : A0 = 0
            rotate_left
            · obtain ⟨x, hx⟩ : ∃ x, A0 = x + 1 := ⟨A0 - 1, by omega⟩
              have hxm : x < m := by have := hmk.out; omega
              have hA1 : (0 : Int) < (A0 : Int) := by omega
              have e1 : IntKind.i64.wrap ((A0 : Int) - 1) = (x : Int) := (wrap_in _ (by omega) (by omega)).trans (by omega)
              have p9 := ble hb (hqc.out x hxm)
              obtain rfl := hbq.out (by omega)
              cases hc : cA qs x
              · have hLo : IsLo (cA qs) j A0 := ⟨hxj, hxa, .inr (by rw [show A0 - 1 = x by omega]; exact hc)⟩
                rw [hc] at p9
                clear hxa hc hx hA0
                go_wp2
                go_loop [9] (fun y => ∃ y0 : Nat, y = .int .i64 y0 ∧ j ≤ y0 ∧ y0 < k ∧ ∀ t, j ≤ t → t < y0 → cA qs t = true) (fun y => k - (intOf y).toNat)
                case atStart => exact ⟨j, rfl, Nat.le_refl _, hlt2, IsLo.start _ _⟩
                case round =>
                  obtain ⟨B0, rfl, hjy, hyk, hya⟩ := hrel
                  by_cases hym : B0 < m
                  · have hym1 : (B0 : Int) < (m : Int) := by omega
                    have p0 := ble hb (hqc.out B0 hym)
                    cases hc2 : cA qs B0
                    · rw [hc2] at p0
                      have hHi : IsHi (cA qs) k j B0 := ⟨hjy, hyk, hya, .inr hc2⟩
                      have hAB : A0 ≤ B0 := Nat.le_trans hLo.le hHi.le
                      clear hya hc2
                      go_wp2
                      go_loop [10, 11] (fun p t => ∃ q : Nat, A0 ≤ q ∧ q ≤ B0 + 1 ∧ t = .int .i64 q ∧ p = .int .i64 (sgm (fA fs) A0 (q - A0))) (fun _ t => B0 + 1 - (intOf t).toNat)
                      case atStart => exact ⟨A0, Nat.le_refl _, by omega, rfl, by rw [Nat.sub_self]; rfl⟩
                      case round =>
                        obtain ⟨q, hq0, hq1, rfl, rfl⟩ := hrel
                        by_cases hqb : q ≤ B0
                        · have hqf : q < fs.length := by have := HN.out; omega
                          have hqk : q < k := by omega
                          rcases hf with h | ⟨fb, fo, rfl, hfc⟩
                          · simp [h] at hqf
                          have p0 := ble hb (hfc q hqf)
                          rw [fA_get] at p0
                          have hst := sgm_succ (fA fs) A0 (q - A0)
                          rw [show A0 + (q - A0) = q by omega, show q - A0 + 1 = q + 1 - A0 by omega] at hst
                          have HST := hide hst
                          clear hst hfc
                          generalize fA fs q = x at *
                          generalize sgm (fA fs) A0 (q - A0) = p at *
                          by_cases hx : x = 0
                          · have hj : Hid (jn p x = p) := hide (by subst hx; unfold jn; by_cases h9 : p = 0 <;> simp [h9])
                            have g9 : (x != 0) = false := by simp [hx]
                            clear hx
                            go_wp2
                            go_round
                            case rel => exact ⟨q + 1, by omega, by omega, by go_num, by rw [HST.out, hj.out]⟩
                            case measure => simp [intOf]; omega
                          · have g9 : (x != 0) = true := by simp [hx]
                            by_cases hp : p = 0
                            · have hj : Hid (jn p x = x) := hide (by subst hp; exact jn_zero x)
                              have g8 : (p == 0) = true := by simp [hp]
                              have g7 : (x != x) = false := by simp
                              clear hx hp
                              go_wp2
                              go_round
                              case rel => exact ⟨q + 1, by omega, by omega, by go_num, by rw [HST.out, hj.out]⟩
                              case measure => simp [intOf]; omega
                            · have g8 : (p == 0) = false := by simp [hp]
                              by_cases hpx : p = x
                              · have hj : Hid (jn p x = p) := hide (by subst hpx; simp [jn])
                                have g7 : (p != x) = false := by simp [hpx]
                                clear hx hp hpx
                                go_wp2
                                go_round
                                case rel => exact ⟨q + 1, by omega, by omega, by go_num, by rw [HST.out, hj.out]⟩
                                case measure => simp [intOf]; omega
                              · have hj : Hid (jn p x = 4) := hide (by unfold jn; simp [hp, hpx, hx])
                                have g7 : (p != x) = true := by simp [hpx]
                                clear hx hp hpx
                                go_wp2
                                go_round
                                case rel => exact ⟨q + 1, by omega, by omega, by go_num, by rw [HST.out, hj.out]⟩
                                case measure => simp [intOf]; omega
                        · have hqe : Hid (q = B0 + 1) := hide (by omega)
                          have hv : Hid (sgm (fA fs) A0 (q - A0) = ph (fA fs) (cA qs) k j) := hide (by rw [ph_sgm hLo hHi]; rw [show q - A0 = B0 - A0 + 1 by have := hqe.out; have := hHi.le; have := hLo.le; omega])
                          have hqb : ¬ (q : Int) ≤ (B0 : Int) := by omega
                          have RS0 := rng_succ j (ph (fA fs) (cA qs) k)
                          rw [hv.out]
                          generalize ph (fA fs) (cA qs) k j = z at *
                          have RS := hide RS0
                          clear RS0
                          have hN := one_block' wo (.cells #[.int .i64 z] 3)
                          have hb6 := balloc wo (.cells #[.int .i64 z] 3)
                          have ho6 := own_keep O hb6
                          have hbx := btrans hb hb6
                          clear O
                          go_wp2_with (at_builtin; refine wpList_append_own _ rfl _ _ 40 rfl w.heap.size 3 i0 _ 1 8 Try.underlying40 hi hz0 hz1 hz2 rfl (by decide) _ _ _ rfl ho6 ⟨wo.heap.size, 0, none⟩ 1 1 [.int .i64 z] rfl rfl ?d1c1 ?d1c2 ?d1c3 ?d1c4 ?d1c5 ?_)
                          case d1c2 => rfl
                          case d1c3 => unfold maxLen; omega
                          case d1c4 => omega
                          case d1c5 => have := hbx.size; rw [sz1] at this; exact this
                          intro v2 w5 hown hgrow _
                          have hb5 := hbx.grown hgrow hbx.size (own_from ho6 (Nat.le_refl _))
                          rw [← List.map_map, ← RS.out] at hown
                          clear hgrow hN ho6 hbx hb6 RS
                          go_wp2
                          go_roundw
                          case rel => exact ⟨j + 1, by omega, by go_num, hown, hb5⟩
                          case measure => simp [intOf]; omega
                    · rw [hc2] at p0
                      have hy2 : ∀ t, j ≤ t → t < B0 + 1 → cA qs t = true := fun t h1 h2 => by
                        by_cases e : t = B0
                        · rw [e]; exact hc2
                        · exact hya t h1 (by omega)
                      clear hya hc2
                      go_wp2
                      go_round
                      case rel => exact ⟨B0 + 1, by go_num, by omega, by have := hmk.out; omega, hy2⟩
                      case measure => simp [intOf]; omega
                  · have hHi : IsHi (cA qs) k j B0 := ⟨hjy, hyk, hya, .inl (by have := hmk.out; omega)⟩
                    have hym1 : ¬ (B0 : Int) < (m : Int) := by omega
                    have hAB : A0 ≤ B0 := Nat.le_trans hLo.le hHi.le
                    clear hya
                    go_wp2
                    go_loop [10, 11] (fun p t => ∃ q : Nat, A0 ≤ q ∧ q ≤ B0 + 1 ∧ t = .int .i64 q ∧ p = .int .i64 (sgm (fA fs) A0 (q - A0))) (fun _ t => B0 + 1 - (intOf t).toNat)
                    case atStart => exact ⟨A0, Nat.le_refl _, by omega, rfl, by rw [Nat.sub_self]; rfl⟩
                    case round =>
                      obtain ⟨q, hq0, hq1, rfl, rfl⟩ := hrel
                      by_cases hqb : q ≤ B0
                      · have hqf : q < fs.length := by have := HN.out; omega
                        have hqk : q < k := by omega
                        rcases hf with h | ⟨fb, fo, rfl, hfc⟩
                        · simp [h] at hqf
                        have p0 := ble hb (hfc q hqf)
                        rw [fA_get] at p0
                        have hst := sgm_succ (fA fs) A0 (q - A0)
                        rw [show A0 + (q - A0) = q by omega, show q - A0 + 1 = q + 1 - A0 by omega] at hst
                        have HST := hide hst
                        clear hst hfc
                        generalize fA fs q = x at *
                        generalize sgm (fA fs) A0 (q - A0) = p at *
                        by_cases hx : x = 0
                        · have hj : Hid (jn p x = p) := hide (by subst hx; unfold jn; by_cases h9 : p = 0 <;> simp [h9])
                          have g9 : (x != 0) = false := by simp [hx]
                          clear hx
                          go_wp2
                          go_round
                          case rel => exact ⟨q + 1, by omega, by omega, by go_num, by rw [HST.out, hj.out]⟩
                          case measure => simp [intOf]; omega
                        · have g9 : (x != 0) = true := by simp [hx]
                          by_cases hp : p = 0
                          · have hj : Hid (jn p x = x) := hide (by subst hp; exact jn_zero x)
                            have g8 : (p == 0) = true := by simp [hp]
                            have g7 : (x != x) = false := by simp
                            clear hx hp
                            go_wp2
                            go_round
                            case rel => exact ⟨q + 1, by omega, by omega, by go_num, by rw [HST.out, hj.out]⟩
                            case measure => simp [intOf]; omega
                          · have g8 : (p == 0) = false := by simp [hp]
                            by_cases hpx : p = x
                            · have hj : Hid (jn p x = p) := hide (by subst hpx; simp [jn])
                              have g7 : (p != x) = false := by simp [hpx]
                              clear hx hp hpx
                              go_wp2
                              go_round
                              case rel => exact ⟨q + 1, by omega, by omega, by go_num, by rw [HST.out, hj.out]⟩
                              case measure => simp [intOf]; omega
                            · have hj : Hid (jn p x = 4) := hide (by unfold jn; simp [hp, hpx, hx])
                              have g7 : (p != x) = true := by simp [hpx]
                              clear hx hp hpx
                              go_wp2
                              go_round
                              case rel => exact ⟨q + 1, by omega, by omega, by go_num, by rw [HST.out, hj.out]⟩
                              case measure => simp [intOf]; omega
                      · have hqe : Hid (q = B0 + 1) := hide (by omega)
                        have hv : Hid (sgm (fA fs) A0 (q - A0) = ph (fA fs) (cA qs) k j) := hide (by rw [ph_sgm hLo hHi]; rw [show q - A0 = B0 - A0 + 1 by have := hqe.out; have := hHi.le; have := hLo.le; omega])
                        have hqb : ¬ (q : Int) ≤ (B0 : Int) := by omega
                        have RS0 := rng_succ j (ph (fA fs) (cA qs) k)
                        rw [hv.out]
                        generalize ph (fA fs) (cA qs) k j = z at *
                        have RS := hide RS0
                        clear RS0
                        have hN := one_block' wo (.cells #[.int .i64 z] 3)
                        have hb6 := balloc wo (.cells #[.int .i64 z] 3)
                        have ho6 := own_keep O hb6
                        have hbx := btrans hb hb6
                        clear O
                        go_wp2_with (at_builtin; refine wpList_append_own _ rfl _ _ 40 rfl w.heap.size 3 i0 _ 1 8 Try.underlying40 hi hz0 hz1 hz2 rfl (by decide) _ _ _ rfl ho6 ⟨wo.heap.size, 0, none⟩ 1 1 [.int .i64 z] rfl rfl ?d2c1 ?d2c2 ?d2c3 ?d2c4 ?d2c5 ?_)
                        case d2c2 => rfl
                        case d2c3 => unfold maxLen; omega
                        case d2c4 => omega
                        case d2c5 => have := hbx.size; rw [sz1] at this; exact this
                        intro v2 w5 hown hgrow _
                        have hb5 := hbx.grown hgrow hbx.size (own_from ho6 (Nat.le_refl _))
                        rw [← List.map_map, ← RS.out] at hown
                        clear hgrow hN ho6 hbx hb6 RS
                        go_wp2
                        go_roundw
                        case rel => exact ⟨j + 1, by omega, by go_num, hown, hb5⟩
                        case measure => simp [intOf]; omega
              · have hx2 : ∀ t, x ≤ t → t < j → cA qs t = true := fun t h1 h2 => by
                  by_cases e : t = x
                  · rw [e]; exact hc
                  · exact hxa t (by omega) h2
                rw [hc] at p9
                have hxj2 : x ≤ j := by omega
                have hxA : x < A0 := by omega
                clear hxa hc hx hA0
                go_wp2
                go_round
                case rel => exact ⟨x, rfl, hxj2, hx2⟩
                case measure => simpa [intOf] using hxA
            · have hLo : IsLo (cA qs) j A0 := ⟨hxj, hxa, .inl hA0⟩
              have hA1 : ¬ (0 : Int) < (A0 : Int) := by omega
              clear hxa hA0
              go_wp2
              go_loop [9] (fun y => ∃ y0 : Nat, y = .int .i64 y0 ∧ j ≤ y0 ∧ y0 < k ∧ ∀ t, j ≤ t → t < y0 → cA qs t = true) (fun y => k - (intOf y).toNat)
              case atStart => exact ⟨j, rfl, Nat.le_refl _, hlt2, IsLo.start _ _⟩
              case round =>
                obtain ⟨B0, rfl, hjy, hyk, hya⟩ := hrel
                by_cases hym : B0 < m
                · have hym1 : (B0 : Int) < (m : Int) := by omega
                  obtain rfl := hbq.out (by omega)
                  have p0 := ble hb (hqc.out B0 hym)
                  cases hc2 : cA qs B0
                  · rw [hc2] at p0
                    have hHi : IsHi (cA qs) k j B0 := ⟨hjy, hyk, hya, .inr hc2⟩
                    have hAB : A0 ≤ B0 := Nat.le_trans hLo.le hHi.le
                    clear hya hc2
                    go_wp2
                    go_loop [10, 11] (fun p t => ∃ q : Nat, A0 ≤ q ∧ q ≤ B0 + 1 ∧ t = .int .i64 q ∧ p = .int .i64 (sgm (fA fs) A0 (q - A0))) (fun _ t => B0 + 1 - (intOf t).toNat)
                    case atStart => exact ⟨A0, Nat.le_refl _, by omega, rfl, by rw [Nat.sub_self]; rfl⟩
                    case round =>
                      obtain ⟨q, hq0, hq1, rfl, rfl⟩ := hrel
                      by_cases hqb : q ≤ B0
                      · have hqf : q < fs.length := by have := HN.out; omega
                        have hqk : q < k := by omega
                        rcases hf with h | ⟨fb, fo, rfl, hfc⟩
                        · simp [h] at hqf
                        have p0 := ble hb (hfc q hqf)
                        rw [fA_get] at p0
                        have hst := sgm_succ (fA fs) A0 (q - A0)
                        rw [show A0 + (q - A0) = q by omega, show q - A0 + 1 = q + 1 - A0 by omega] at hst
                        have HST := hide hst
                        clear hst hfc
                        generalize fA fs q = x at *
                        generalize sgm (fA fs) A0 (q - A0) = p at *
                        by_cases hx : x = 0
                        · have hj : Hid (jn p x = p) := hide (by subst hx; unfold jn; by_cases h9 : p = 0 <;> simp [h9])
                          have g9 : (x != 0) = false := by simp [hx]
                          clear hx
                          go_wp2
                          go_round
                          case rel => exact ⟨q + 1, by omega, by omega, by go_num, by rw [HST.out, hj.out]⟩
                          case measure => simp [intOf]; omega
                        · have g9 : (x != 0) = true := by simp [hx]
                          by_cases hp : p = 0
                          · have hj : Hid (jn p x = x) := hide (by subst hp; exact jn_zero x)
                            have g8 : (p == 0) = true := by simp [hp]
                            have g7 : (x != x) = false := by simp
                            clear hx hp
                            go_wp2
                            go_round
                            case rel => exact ⟨q + 1, by omega, by omega, by go_num, by rw [HST.out, hj.out]⟩
                            case measure => simp [intOf]; omega
                          · have g8 : (p == 0) = false := by simp [hp]
                            by_cases hpx : p = x
                            · have hj : Hid (jn p x = p) := hide (by subst hpx; simp [jn])
                              have g7 : (p != x) = false := by simp [hpx]
                              clear hx hp hpx
                              go_wp2
                              go_round
                              case rel => exact ⟨q + 1, by omega, by omega, by go_num, by rw [HST.out, hj.out]⟩
                              case measure => simp [intOf]; omega
                            · have hj : Hid (jn p x = 4) := hide (by unfold jn; simp [hp, hpx, hx])
                              have g7 : (p != x) = true := by simp [hpx]
                              clear hx hp hpx
                              go_wp2
                              go_round
                              case rel => exact ⟨q + 1, by omega, by omega, by go_num, by rw [HST.out, hj.out]⟩
                              case measure => simp [intOf]; omega
                      · have hqe : Hid (q = B0 + 1) := hide (by omega)
                        have hv : Hid (sgm (fA fs) A0 (q - A0) = ph (fA fs) (cA qs) k j) := hide (by rw [ph_sgm hLo hHi]; rw [show q - A0 = B0 - A0 + 1 by have := hqe.out; have := hHi.le; have := hLo.le; omega])
                        have hqb : ¬ (q : Int) ≤ (B0 : Int) := by omega
                        have RS0 := rng_succ j (ph (fA fs) (cA qs) k)
                        rw [hv.out]
                        generalize ph (fA fs) (cA qs) k j = z at *
                        have RS := hide RS0
                        clear RS0
                        have hN := one_block' wo (.cells #[.int .i64 z] 3)
                        have hb6 := balloc wo (.cells #[.int .i64 z] 3)
                        have ho6 := own_keep O hb6
                        have hbx := btrans hb hb6
                        clear O
                        go_wp2_with (at_builtin; refine wpList_append_own _ rfl _ _ 40 rfl w.heap.size 3 i0 _ 1 8 Try.underlying40 hi hz0 hz1 hz2 rfl (by decide) _ _ _ rfl ho6 ⟨wo.heap.size, 0, none⟩ 1 1 [.int .i64 z] rfl rfl ?d3c1 ?d3c2 ?d3c3 ?d3c4 ?d3c5 ?_)
                        case d3c2 => rfl
                        case d3c3 => unfold maxLen; omega
                        case d3c4 => omega
                        case d3c5 => have := hbx.size; rw [sz1] at this; exact this
                        intro v2 w5 hown hgrow _
                        have hb5 := hbx.grown hgrow hbx.size (own_from ho6 (Nat.le_refl _))
                        rw [← List.map_map, ← RS.out] at hown
                        clear hgrow hN ho6 hbx hb6 RS
                        go_wp2
                        go_roundw
                        case rel => exact ⟨j + 1, by omega, by go_num, hown, hb5⟩
                        case measure => simp [intOf]; omega
                  · rw [hc2] at p0
                    have hy2 : ∀ t, j ≤ t → t < B0 + 1 → cA qs t = true := fun t h1 h2 => by
                      by_cases e : t = B0
                      · rw [e]; exact hc2
                      · exact hya t h1 (by omega)
                    clear hya hc2
                    go_wp2
                    go_round
                    case rel => exact ⟨B0 + 1, by go_num, by omega, by have := hmk.out; omega, hy2⟩
                    case measure => simp [intOf]; omega
                · have hHi : IsHi (cA qs) k j B0 := ⟨hjy, hyk, hya, .inl (by have := hmk.out; omega)⟩
                  have hym1 : ¬ (B0 : Int) < (m : Int) := by omega
                  have hAB : A0 ≤ B0 := Nat.le_trans hLo.le hHi.le
                  clear hya
                  go_wp2
                  go_loop [10, 11] (fun p t => ∃ q : Nat, A0 ≤ q ∧ q ≤ B0 + 1 ∧ t = .int .i64 q ∧ p = .int .i64 (sgm (fA fs) A0 (q - A0))) (fun _ t => B0 + 1 - (intOf t).toNat)
                  case atStart => exact ⟨A0, Nat.le_refl _, by omega, rfl, by rw [Nat.sub_self]; rfl⟩
                  case round =>
                    obtain ⟨q, hq0, hq1, rfl, rfl⟩ := hrel
                    by_cases hqb : q ≤ B0
                    · have hqf : q < fs.length := by have := HN.out; omega
                      have hqk : q < k := by omega
                      rcases hf with h | ⟨fb, fo, rfl, hfc⟩
                      · simp [h] at hqf
                      have p0 := ble hb (hfc q hqf)
                      rw [fA_get] at p0
                      have hst := sgm_succ (fA fs) A0 (q - A0)
                      rw [show A0 + (q - A0) = q by omega, show q - A0 + 1 = q + 1 - A0 by omega] at hst
                      have HST := hide hst
                      clear hst hfc
                      generalize fA fs q = x at *
                      generalize sgm (fA fs) A0 (q - A0) = p at *
                      by_cases hx : x = 0
                      · have hj : Hid (jn p x = p) := hide (by subst hx; unfold jn; by_cases h9 : p = 0 <;> simp [h9])
                        have g9 : (x != 0) = false := by simp [hx]
                        clear hx
                        go_wp2
                        go_round
                        case rel => exact ⟨q + 1, by omega, by omega, by go_num, by rw [HST.out, hj.out]⟩
                        case measure => simp [intOf]; omega
                      · have g9 : (x != 0) = true := by simp [hx]
                        by_cases hp : p = 0
                        · have hj : Hid (jn p x = x) := hide (by subst hp; exact jn_zero x)
                          have g8 : (p == 0) = true := by simp [hp]
                          have g7 : (x != x) = false := by simp
                          clear hx hp
                          go_wp2
                          go_round
                          case rel => exact ⟨q + 1, by omega, by omega, by go_num, by rw [HST.out, hj.out]⟩
                          case measure => simp [intOf]; omega
                        · have g8 : (p == 0) = false := by simp [hp]
                          by_cases hpx : p = x
                          · have hj : Hid (jn p x = p) := hide (by subst hpx; simp [jn])
                            have g7 : (p != x) = false := by simp [hpx]
                            clear hx hp hpx
                            go_wp2
                            go_round
                            case rel => exact ⟨q + 1, by omega, by omega, by go_num, by rw [HST.out, hj.out]⟩
                            case measure => simp [intOf]; omega
                          · have hj : Hid (jn p x = 4) := hide (by unfold jn; simp [hp, hpx, hx])
                            have g7 : (p != x) = true := by simp [hpx]
                            clear hx hp hpx
                            go_wp2
                            go_round
                            case rel => exact ⟨q + 1, by omega, by omega, by go_num, by rw [HST.out, hj.out]⟩
                            case measure => simp [intOf]; omega
                    · have hqe : Hid (q = B0 + 1) := hide (by omega)
                      have hv : Hid (sgm (fA fs) A0 (q - A0) = ph (fA fs) (cA qs) k j) := hide (by rw [ph_sgm hLo hHi]; rw [show q - A0 = B0 - A0 + 1 by have := hqe.out; have := hHi.le; have := hLo.le; omega])
                      have hqb : ¬ (q : Int) ≤ (B0 : Int) := by omega
                      have RS0 := rng_succ j (ph (fA fs) (cA qs) k)
                      rw [hv.out]
                      generalize ph (fA fs) (cA qs) k j = z at *
                      have RS := hide RS0
                      clear RS0
                      have hN := one_block' wo (.cells #[.int .i64 z] 3)
                      have hb6 := balloc wo (.cells #[.int .i64 z] 3)
                      have ho6 := own_keep O hb6
                      have hbx := btrans hb hb6
                      clear O
                      go_wp2_with (at_builtin; refine wpList_append_own _ rfl _ _ 40 rfl w.heap.size 3 i0 _ 1 8 Try.underlying40 hi hz0 hz1 hz2 rfl (by decide) _ _ _ rfl ho6 ⟨wo.heap.size, 0, none⟩ 1 1 [.int .i64 z] rfl rfl ?d4c1 ?d4c2 ?d4c3 ?d4c4 ?d4c5 ?_)
                      case d4c2 => rfl
                      case d4c3 => unfold maxLen; omega
                      case d4c4 => omega
                      case d4c5 => have := hbx.size; rw [sz1] at this; exact this
                      intro v2 w5 hown hgrow _
                      have hb5 := hbx.grown hgrow hbx.size (own_from ho6 (Nat.le_refl _))
                      rw [← List.map_map, ← RS.out] at hown
                      clear hgrow hN ho6 hbx hb6 RS
                      go_wp2
                      go_roundw
                      case rel => exact ⟨j + 1, by omega, by go_num, hown, hb5⟩
                      case measure => simp [intOf]; omega
        · obtain rfl : j = k := by omega
          have hR : wr.ownsRow w.heap.size 3 1 (.slice va j vc) (phC fs qs).length ((phC fs qs).map (Value.int .i64)) := by
            rw [hC.out]
            simpa using O
          clear O hC
          go_wp2
          go_ret
          exact ⟨_, rfl, hR, hb⟩
end Go.Proofs.Ytapnidhokpkmdaa
