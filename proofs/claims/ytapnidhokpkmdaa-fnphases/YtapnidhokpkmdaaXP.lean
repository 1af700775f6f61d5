/- The walk of FnPhases. -/
import Derived.Test.YtapnidhokpkmdaaPX
import Derived.BigQuiet
import Derived.Deep.RegionHeld3
namespace Go.Proofs.Ytapnidhokpkmdaa
open Go.RowKit

theorem infoB2 : ∃ i0, Try.prog.info? 4 = some i0 ∧ i0.zero = some (.bool false) ∧ i0.size = 1 ∧ i0.bytes = 1 := info_parts infoBools
/-- What the first loop has drawn. -/
structure Drn (k : Nat) (fs : List Int) (qs : List Bool) : Prop where
  lf : fs.length = k
  lq : qs.length = k - 1
  inn : ∀ x ∈ fs, 0 ≤ x ∧ x ≤ 3
theorem in_push {fs : List Int} {x : Int} (h : ∀ y ∈ fs, 0 ≤ y ∧ y ≤ 3) (h0 : 0 ≤ x) (h1 : x < 4) : ∀ y ∈ fs ++ [x], 0 ≤ y ∧ y ≤ 3 := by
  intro y hy
  rw [List.mem_append, List.mem_singleton] at hy
  rcases hy with hy | rfl
  · exact h y hy
  · exact ⟨h0, by omega⟩
theorem Drn.push0 {fs : List Int} {qs : List Bool} {x : Int} (h : Drn 0 fs qs) (h0 : 0 ≤ x) (h1 : x < 4) : Drn 1 (fs ++ [x]) qs :=
  ⟨by simp [h.lf], by simp [h.lq], in_push h.inn h0 h1⟩
theorem Drn.push {k : Nat} {fs : List Int} {qs : List Bool} {x : Int} {q : Bool} (h : Drn k fs qs) (hk : 0 < k) (h0 : 0 ≤ x) (h1 : x < 4) : Drn (k + 1) (fs ++ [x]) (qs ++ [q]) :=
  ⟨by simp [h.lf], by simp [h.lq]; omega, in_push h.inn h0 h1⟩

set_option maxRecDepth 20000 in
set_option maxHeartbeats 12800000 in
theorem walkPhasesD (a : Option Addr) (cap : Nat) (bs : List Int) (w : World) (hz : Bytes w a bs) (hn : bs.length ≤ maxLen) :
    Calls Try.prog 5 #[.slice a bs.length cap] w fun e w' => e = .returned (.bool true) ∧ Below w.heap.size w w' := by
  obtain ⟨i0, hi, hz0, hz1, hz2⟩ := infoI2
  obtain ⟨i1, hjB, hy0, hy1, hy2⟩ := infoB2
  go_enter Try.func5, Try.ntmps5
  go_wp2_with fail
  refine (cbig a cap bs.length _ hn).mono ?_
  rintro e w1 ⟨rfl, hw⟩
  subst w1
  by_cases hB : 1048576 < bs.length
  · rw [decide_eq_true hB]
    go_wp2
    go_ret
    exact ⟨rfl, Below.refl _ _⟩
  rw [decide_eq_false hB]
  have hl : bs.length ≤ 1048576 := by omega
  clear hB
  have CA := fun (k : Nat) (hk : k ≤ 100000) (w1 : World) (h : Below w.heap.size w w1) => cat a cap bs k w1 (hz.below h) hl hk
  have R0 := atZ_in hz 0
  have RA := hide (fun k => atZ_in hz k)
  obtain ⟨z0, hz0e⟩ : ∃ z, z = atZ bs 0 := ⟨_, rfl⟩
  have C0 := fun (w1 : World) (h : Below w.heap.size w w1) => CA 0 (by omega) w1 h
  rw [← hz0e] at C0 R0
  obtain ⟨n, hn0⟩ : ∃ n : Nat, (n : Int) = 1 + z0 % 12 := ⟨(1 + z0 % 12).toNat, by omega⟩
  have hn1 : 1 ≤ n := by omega
  have hn12 : n ≤ 12 := by omega
  have r0 := rem_in (x := z0) (n := 12) R0.1 (by omega) (by omega)
  have r1 : IntKind.i64.wrap (1 + z0 % 12) = (n : Int) := by rw [hn0]; exact wrap_in _ (by omega) (by omega)
  have HB0 := btrans (balloc w (.cells #[] 3)) (balloc _ (.cells #[] 4))
  have OF : ((w.alloc (.cells #[] 3)).alloc (.cells #[] 4)).ownsRow w.heap.size 3 1 (.slice (some ⟨w.heap.size, 0, none⟩) 0 0) 0 (([] : List Int).map (Value.int .i64)) := own_keep (World.ownsRow_made w #[] 0 (Nat.le_refl _) (by unfold maxLen; omega) rfl) (balloc _ _)
  have OQ0 : ((w.alloc (.cells #[] 3)).alloc (.cells #[] 4)).ownsRow (w.alloc (.cells #[] 3)).heap.size 4 1 (.slice (some ⟨(w.alloc (.cells #[] 3)).heap.size, 0, none⟩) 0 0) 0 (([] : List Bool).map Value.bool) := World.ownsRow_made _ #[] 0 (Nat.le_refl _) (by unfold maxLen; omega) rfl
  rw [sz1] at OQ0
  have OQ := RowI.own_below (B' := w.heap.size) OQ0 (by omega)
  clear OQ0 hz0e hn
  go_wp2
  generalize (w.alloc (.cells #[] 3)).alloc (.cells #[] 4) = w0 at *
  go_loopw [3, 4, 5] (fun fv qv i wr => ∃ (k : Nat) (fs : List Int) (qs : List Bool), k ≤ n ∧ i = .int .i64 k ∧ Drn k fs qs ∧ wr.ownsRow w.heap.size 3 1 fv k (fs.map (Value.int .i64)) ∧ wr.ownsRow w.heap.size 4 1 qv (k - 1) (qs.map Value.bool) ∧ Below w.heap.size w wr) (fun _ _ i _ => n - (intOf i).toNat)
  case atStart => exact ⟨0, [], [], Nat.zero_le _, rfl, ⟨rfl, rfl, fun x hx => by cases hx⟩, OF, OQ, HB0⟩
  case round =>
    clear OF OQ HB0
    obtain ⟨k, fs, qs, hk, rfl, hD, OF, OQ, hb⟩ := hrel
    obtain ⟨fa, fc, rfl⟩ := own_form OF
    obtain ⟨qa, qc, rfl⟩ := own_form OQ
    go_wp2_with fail
    refine (C0 _ hb).mono ?_
    rintro e w1 ⟨rfl, hw⟩
    subst w1
    by_cases hlt : k < n
    · have hk1 : IntKind.i64.wrap ((k : Int) + 1) = ((k + 1 : Nat) : Int) := (wrap_in _ (by omega) (by omega)).trans (by omega)
      have C1 := CA (k + 1) (by omega) wr hb
      have R1 := RA.out (k + 1)
      generalize atZ bs (k + 1) = z1 at *
      obtain ⟨x, hx, q2, q3⟩ : ∃ x, z1.tmod 4 = x ∧ 0 ≤ x ∧ x < 4 := ⟨z1 % 4, Int.tmod_eq_emod_of_nonneg R1.1, by omega, by omega⟩
      clear R1
      go_wp2_with fail
      refine C1.mono ?_
      rintro e w1 ⟨rfl, hw⟩
      subst w1
      have hN := one_block' wr (.cells #[.int .i64 x] 3)
      have hb6 := balloc wr (.cells #[.int .i64 x] 3)
      have ho6 := own_keep OF hb6
      have oq6 := own_keep OQ hb6
      have hbx := btrans hb hb6
      have hap := own_apart oq6 ho6 (by decide)
      clear OF OQ hb C1
      go_wp2_with (at_builtin; refine wpList_append_own _ rfl _ _ 40 rfl w.heap.size 3 i0 _ 1 8 Try.underlying40 hi hz0 hz1 hz2 rfl (by decide) _ _ _ rfl ho6 ⟨wr.heap.size, 0, none⟩ 1 1 [.int .i64 x] rfl rfl ?c1 ?c2 ?c3 ?c4 ?c5 ?_)
      case c1 => exact World.news_of_block hN
      case c2 => intro u hu; simp at hu; subst hu; rfl
      case c3 => unfold maxLen; omega
      case c4 => omega
      case c5 => exact hbx.size
      intro v2 w5 OF5 hgrow _
      have hb5 := hbx.grown hgrow hbx.size (own_from ho6 (Nat.le_refl _))
      have OQ5 := own_far oq6 hgrow hap
      have RS : (fs.map (Value.int .i64)) ++ [Value.int .i64 x] = (fs ++ [x]).map (Value.int .i64) := by simp
      rw [RS] at OF5
      clear hgrow hN ho6 oq6 hbx hb6 RS hap
      obtain ⟨fa2, fc2, rfl⟩ := own_form OF5
      by_cases hk0 : k = 0
      · subst hk0
        have hD2 := hD.push0 q2 q3
        go_wp2
        go_roundw
        case rel => exact ⟨1, _, qs, by omega, by go_num, hD2, OF5, OQ5, hb5⟩
        case measure => simp [intOf]; omega
      · have hkp : (0 : Int) < (k : Int) := by omega
        have hk2 : IntKind.i64.wrap ((k : Int) + 20) = ((k + 20 : Nat) : Int) := (wrap_in _ (by omega) (by omega)).trans (by omega)
        have C2 := CA (k + 20) (by omega) w5 hb5
        have R2 := RA.out (k + 20)
        generalize atZ bs (k + 20) = z2 at *
        have hD3 := hide (fun (q : Bool) => hD.push (q := q) (by omega) q2 q3)
        clear hx q2 q3
        obtain ⟨y, hy, q5⟩ : ∃ y, z2.tmod 3 = y ∧ 0 ≤ y := ⟨z2 % 3, Int.tmod_eq_emod_of_nonneg R2.1, by omega⟩
        clear R2
        go_wp2_with fail
        refine C2.mono ?_
        rintro e w1 ⟨rfl, hw⟩
        subst w1
        obtain ⟨B, hB2⟩ : ∃ B, decide (0 < y) = B := ⟨_, rfl⟩
        have hN := one_block' w5 (.cells #[.bool B] 4)
        have hb6 := balloc w5 (.cells #[.bool B] 4)
        have ho6 := own_keep OQ5 hb6
        have of6 := own_keep OF5 hb6
        have hbx := btrans hb5 hb6
        have hap := own_apart of6 ho6 (by decide)
        clear OF5 OQ5 hb5 C2
        go_wp2_with (at_builtin; refine wpList_append_own _ rfl _ _ 41 rfl w.heap.size 4 i1 _ 1 1 Try.underlying41 hjB hy0 hy1 hy2 rfl (by decide) _ _ _ rfl ho6 ⟨w5.heap.size, 0, none⟩ 1 1 [.bool B] rfl rfl ?e1 ?e2 ?e3 ?e4 ?e5 ?_)
        case e1 => exact World.news_of_block hN
        case e2 => intro u hu; simp at hu; subst hu; rfl
        case e3 => unfold maxLen; omega
        case e4 => omega
        case e5 => exact hbx.size
        intro v3 w6 OQ6 hgrow _
        have hb9 := hbx.grown hgrow hbx.size (own_from ho6 (Nat.le_refl _))
        have OF6 := own_far of6 hgrow hap
        have RS : (qs.map Value.bool) ++ [Value.bool B] = (qs ++ [B]).map Value.bool := by simp
        have hk9 : k - 1 + 1 = k + 1 - 1 := by omega
        rw [RS, hk9] at OQ6
        have hD4 := hD3.out B
        clear hgrow hN ho6 of6 hbx hb6 RS hap hD3 hk9 hB2 hy
        obtain ⟨qa2, qc2, rfl⟩ := own_form OQ6
        go_wp2
        go_roundw
        case rel => exact ⟨k + 1, _, _, by omega, by go_num, hD4, OF6, OQ6, hb9⟩
        case measure => simp [intOf]; omega
    · obtain rfl : k = n := by omega
      have hok : phB fs qs = true := phB_mk (by rw [hD.lf]; omega) hD.inn (by rw [hD.lq, hD.lf])
      have hLF := hD.lf
      have hLQ := hD.lq
      have VF := Ints.own OF hLF
      have VQ := Bools.own OQ hLQ
      obtain ⟨m, hm⟩ : ∃ m, k - 1 = m := ⟨_, rfl⟩
      rw [hm] at hLQ ⊢
      have HF := hide hLF
      have HQ := hide hLQ
      have HM : Hid (m + 1 = k) := hide (by omega)
      have hm11 : m ≤ 11 := by omega
      have CI := fun (w1 : World) (va : Option Addr) (vc : Nat) (ys : List Bool) (h1 : Ints w1 fa fs) (h2 : Bools w1 va ys) => cPhI fa va fc vc fs ys w1 h1 h2 (by omega)
      have CS := fun (w1 : World) (h1 : Ints w1 fa fs) (h2 : Bools w1 qa qs) => cPhS fa qa fc qc fs qs w1 h1 h2 (by omega) (by omega)
      have hfA : Hid ((List.range fs.length).map (fA fs) = fs) := hide fA_all
      rw [hLF] at CI CS hfA
      rw [hLQ] at CS
      have E1 := phC_yes hok
      rw [hLF] at E1
      have PB := hide (fun (ys : List Bool) (h : ys.length = m) => phC_yes (phB_mk (fs := fs) (qs := ys) (by omega) hD.inn (by omega)))
      rw [E1] at CS
      clear OF OQ hD hok RA CA C0 hm hLF hLQ
      go_wp2_with fail
      clear r0 r1 R0
      have C1 := CI wr qa qc qs VF VQ
      rw [HQ.out, E1] at C1
      refine C1.mono ?_
      rintro e w1 ⟨v1, rfl, OL, hb1⟩
      clear C1
      have LK : ((List.range k).map (ph (fA fs) (cA qs) k)).length = k := by simp
      rw [LK] at OL
      obtain ⟨la, lc, rfl⟩ := own_form OL
      have VL := Ints.own OL LK
      have LG : Hid (∀ j, j < k → ((List.range k).map (ph (fA fs) (cA qs) k)).getD j 0 = ph (fA fs) (cA qs) k j) := hide (fun j hj => by simp [List.getD, hj])
      have VF1 := VF.below hb1
      have VQ1 := VQ.below hb1
      have HB1 := btrans hb hb1
      clear VF VQ hb hb1 OL
      generalize hLS : (List.range k).map (ph (fA fs) (cA qs) k) = LS at *
      have HLS := hide hLS
      have HLK := hide LK
      clear hLS
      have g0 : ((k : Int) != (k : Int)) = false := by simp
      go_wp2_with fail
      refine (CS w1 VF1 VQ1).mono ?_
      rintro e w2 ⟨v2, rfl, O2, hb2⟩
      rw [LK] at O2
      obtain ⟨sa, sc, rfl⟩ := own_form O2
      have V2 := Ints.own O2 LK
      have CM := cSameInts la sa lc sc LS w2 (VL.below hb2) V2 (by omega)
      rw [LK] at CM
      clear CS
      go_wp2_with fail
      refine CM.mono ?_
      rintro e w3 ⟨rfl, hb3⟩
      have B3 := btrans hb2 hb3
      have HB3 := btrans HB1 B3
      replace VF1 := VF1.below B3
      replace VQ1 := VQ1.below B3
      replace VL := VL.below B3
      clear O2 V2 CM hb2 hb3 B3 HB1 LK
      go_wp2
      go_loopw [7] (fun i wr => ∃ j : Nat, j ≤ m ∧ i = .int .i64 j ∧ Below w3.heap.size w3 wr) (fun i _ => m - (intOf i).toNat)
      case atStart => exact ⟨0, Nat.zero_le _, rfl, Below.refl _ _⟩
      case round =>
        obtain ⟨j, hj, rfl, hb⟩ := hrel
        by_cases hlt2 : j < m
        · have hjq : j < qs.length := by have := HQ.out; omega
          have hjk : j + 1 < k := by have := HM.out; omega
          have hjl : j + 1 < LS.length := by have := HLK.out; omega
          have x1 := LG.out j (by omega)
          have x2 := LG.out (j + 1) hjk
          have hph := ph_step (f := fA fs) (c := cA qs) hjk
          rcases VQ1 with h | ⟨qb, qo, rfl, qq⟩
          · simp [h] at hjq
          rcases VL with h | ⟨lb, lo, rfl, ll⟩
          · simp [h] at hjl
          have p0 := ble hb (qq j hjq)
          rw [cA_get] at p0
          have p1 := ble hb (ll j (by omega))
          have p2 := ble hb (ll (j + 1) hjl)
          rw [x1] at p1
          rw [x2] at p2
          have e1 : IntKind.i64.wrap ((j : Int) + 1) = (j : Int) + 1 := wrap_in _ (by omega) (by omega)
          clear qq ll x1 x2
          cases hc : cA qs j
          · rw [hc] at p0
            clear hph hc
            go_wp2
            go_quiet (fail)
            go_wp2
            go_roundw
            case rel => exact ⟨j + 1, by omega, by go_num, bdraw hb _⟩
            case measure => simp [intOf]; omega
          · rw [hc] at p0
            rw [hc, if_pos rfl] at hph
            rw [hph] at p1
            clear hph hc
            generalize ph (fA fs) (cA qs) k (j + 1) = y at *
            have g1 : (y != y) = false := by simp
            go_wp2
            go_quiet (fail)
            go_wp2
            go_roundw
            case rel => exact ⟨j + 1, by omega, by go_num, bdraw hb _⟩
            case measure => simp [intOf]; omega
        · obtain rfl : j = m := by omega
          have VF4 := VF1.below hb
          have VQ4 := VQ1.below hb
          have VL4 := VL.below hb
          have HB4 := btrans HB3 hb
          clear VF1 VQ1 VL HB3 hb
          go_wp2_with (at_make; refine wpList_make_full _ rfl _ _ 41 rfl wr.heap.size 4 i1 (.bool false) 1 Try.underlying41 hjB hy0 hy1 _ _ _ _ j rfl rfl rfl rfl (by rw [hy2]; omega) (by unfold maxLen; omega) (Nat.le_refl _) ?_; intro w5 OM hgrow; have hb5 : Below wr.heap.size wr w5 := (Below.refl _ _).grown hgrow (Nat.le_refl _) (fun k hk => by cases hk))
          have OM2 : w5.ownsRow wr.heap.size 4 1 (.slice (some ⟨wr.heap.size, 0, none⟩) j j) j ((List.replicate j false).map Value.bool) := by simpa [toList_madeCells_one, Value.cells] using OM
          have C5 := CI w5 (some ⟨wr.heap.size, 0, none⟩) j (List.replicate j false) (VF4.below hb5) (Bools.own OM2 (by simp))
          rw [List.length_replicate, PB.out _ (by simp)] at C5
          have EA : (List.range fs.length).map (ph (fA fs) (cA (List.replicate j false)) fs.length) = fs := by
            conv => rhs; rw [← fA_all (fs := fs)]
            apply List.map_congr_left
            intro t _
            exact ph_apart (cA_rep j) _ _
          rw [EA] at C5
          refine C5.mono ?_
          rintro e w6 ⟨v6, rfl, O6, hb6⟩
          obtain ⟨pa, pc, rfl⟩ := own_form O6
          have B6 := btrans hb5 hb6
          have VF6 := VF4.below B6
          have CM := cSameInts pa fa pc fc fs w6 (Ints.own O6 rfl) VF6 (by have := HF.out; omega)
          rw [HF.out] at CM ⊢
          clear C5 OM OM2 hgrow O6 hb5 hb6 EA
          go_wp2_with fail
          refine CM.mono ?_
          rintro e w7 ⟨rfl, hb7⟩
          have B7 := btrans B6 hb7
          have HB7 := btrans HB4 B7
          replace VF6 := VF6.below hb7
          have VQ7 := VQ4.below B7
          have VL7 := VL4.below B7
          clear CM VF4 VQ4 VL4 HB4 B6 B7 hb7
          go_wp2
          generalize w7 = wz at *
          go_loopw [9, 10, 11, 12] (fun i _ _ _ wr => ∃ t : Nat, t ≤ j ∧ i = .int .i64 t ∧ Below wz.heap.size wz wr) (fun i _ _ _ _ => j - (intOf i).toNat)
          case atStart => exact ⟨0, Nat.zero_le _, rfl, Below.refl _ _⟩
          case round =>
            obtain ⟨t, ht, rfl, hb⟩ := hrel
            by_cases hlt3 : t < j
            · have hqn : qs ≠ [] := fun e => by have := HQ.out; rw [e] at this; simp at this; omega
              have hal := balloc wr (.cells #[] 4)
              have hb8 := btrans hb hal
              have O0 : (wr.alloc (.cells #[] 4)).ownsRow wr.heap.size 4 1 (.slice (some ⟨wr.heap.size, 0, none⟩) 0 0) 0 [] := World.ownsRow_made _ #[] 0 (Nat.le_refl _) (by unfold maxLen; omega) rfl
              obtain ⟨v8, w8, hrun, O8, hgrow8⟩ := app_bools O0 qa qc (VQ7.below hb8) hqn (by have := HQ.out; omega) (by rw [sz1]; omega)
              have B8 : Below wr.heap.size wr w8 := hal.grown hgrow8 (by rw [sz1]; omega) (fun x e => by simp [Value.ownBlock] at e; omega)
              rw [HQ.out] at hrun O8
              obtain ⟨ea, ec, rfl⟩ := own_form O8
              obtain ⟨g8, rfl⟩ := own_some O8 (by omega)
              have hg8 := own_from O8 (Nat.le_refl _) g8 rfl
              have f8 := O8.frozenAt t
              have c8 := O8.cellAt t (by omega)
              obtain ⟨q8, hq8⟩ : ∃ q8 : Bool, (encB qs)[t]? = some (.bool q8) := ⟨qs.getD t false, by simp [encB, List.getD, (show t < qs.length by have := HQ.out; omega)]⟩
              rw [hq8] at c8
              have O9 := (O8.stored t (.bool false)).1
              have ES : (encB qs).set t (.bool false) = (qs.set t false).map Value.bool := by simp [encB]
              rw [ES] at O9
              have B9 := below_set (o := t) (v := .bool false) hg8 B8
              clear O0 hal hgrow8 hq8 ES O8 B8 hb8
              go_wp2_with (at_builtin; refine Go.Lib.wpList_append_run _ rfl _ _ _ _ rfl _ _ rfl rfl _ _ hrun ?_)
              clear hrun f8 c8
              generalize w8.setCell ⟨g8, t, none⟩ (.bool false) = w9 at *
              have HB9 := btrans hb B9
              have C9 := CI w9 (some ⟨g8, 0, none⟩) ec (qs.set t false) (VF6.below HB9) (Bools.own O9 (by simp; exact HQ.out))
              rw [List.length_set, HQ.out, PB.out _ (by simp; exact HQ.out), HF.out] at C9
              refine C9.mono ?_
              rintro e wA ⟨vA, rfl, OA, hbA⟩
              have LKA : ((List.range k).map (ph (fA fs) (cA (qs.set t false)) k)).length = k := by simp
              rw [LKA] at OA
              obtain ⟨oa, oc, rfl⟩ := own_form OA
              have VA := Ints.own OA LKA
              have LGA : Hid (∀ x, x < k → ((List.range k).map (ph (fA fs) (cA (qs.set t false)) k)).getD x 0 = ph (fA fs) (cA (qs.set t false)) k x) := hide (fun x hx => by simp [List.getD, hx])
              have HO1 := hide (fun (x : Nat) (hx : x < k) => open_ph (f := fA fs) (c := cA qs) (c' := cA (qs.set t false)) (n := k) (fun y hy => cA_less hy) hx)
              have HO2 := hide (fun (x : Nat) (hx : x < k) => open_ph0 (f := fA fs) (c := cA qs) (c' := cA (qs.set t false)) (n := k) (fun y hy => cA_less hy) hx)
              generalize (List.range k).map (ph (fA fs) (cA (qs.set t false)) k) = LA at *
              have HLA := hide LKA
              have HBA := btrans HB9 hbA
              have VLA := VL7.below HBA
              clear C9 OA O9 LKA B9 hb HB9 hbA
              go_wp2
              generalize wA = wy at *
              go_loopw [12] (fun i wr => ∃ q : Nat, q ≤ k ∧ i = .int .i64 q ∧ Below wy.heap.size wy wr) (fun i _ => k - (intOf i).toNat)
              case atStart => exact ⟨0, Nat.zero_le _, rfl, Below.refl _ _⟩
              case round =>
                obtain ⟨q, hq, rfl, hbq⟩ := hrel
                by_cases hlt4 : q < k
                · have hqL : q < LS.length := by have := HLK.out; omega
                  have hqA : q < LA.length := by have := HLA.out; omega
                  have x1 := LG.out q hlt4
                  have x2 := LGA.out q hlt4
                  have y1 := HO1.out q hlt4
                  have y2 := HO2.out q hlt4
                  rcases VLA with h | ⟨lb, lo, rfl, ll⟩
                  · simp [h] at hqL
                  rcases VA with h | ⟨ob, oo, rfl, ol⟩
                  · simp [h] at hqA
                  have p1 := ble hbq (ll q hqL)
                  have p2 := ble hbq (ol q hqA)
                  rw [x1] at p1
                  rw [x2] at p2
                  clear ll ol x1 x2
                  generalize ph (fA fs) (cA qs) k q = x at *
                  generalize ph (fA fs) (cA (qs.set t false)) k q = y at *
                  by_cases h4 : x = 4
                  · have g1 : (x != 4) = false := by simp [h4]
                    have g2 : (x == 0) = false := by simp [h4]
                    clear y1 y2 h4
                    go_wp2
                    go_quiet (fail)
                    go_wp2
                    go_roundw
                    case rel => exact ⟨q + 1, by omega, by go_num, bdraw hbq _⟩
                    case measure => simp [intOf]; omega
                  · have g1 : (x != 4) = true := by simp [h4]
                    rcases y1 h4 with h0 | h0
                    · by_cases h5 : x = 0
                      · have g2 : (y != x) = false := by simp [h0, h5]
                        have g3 : (x == 0) = true := by simp [h5]
                        have g4 : (y != 0) = false := by simp [h0]
                        clear y1 y2 h4 h0 h5
                        go_wp2
                        go_quiet (fail)
                        go_wp2
                        go_roundw
                        case rel => exact ⟨q + 1, by omega, by go_num, bdraw hbq _⟩
                        case measure => simp [intOf]; omega
                      · have g2 : (y != x) = true := by simp [h0]; omega
                        have g3 : (x == 0) = false := by simp [h5]
                        have g4 : (y != 0) = false := by simp [h0]
                        clear y1 y2 h4 h0 h5
                        go_wp2
                        go_quiet (fail)
                        go_wp2
                        go_roundw
                        case rel => exact ⟨q + 1, by omega, by go_num, bdraw hbq _⟩
                        case measure => simp [intOf]; omega
                    · have g2 : (y != x) = false := by simp [h0]
                      by_cases h5 : x = 0
                      · have g3 : (x == 0) = true := by simp [h5]
                        have g4 : (y != 0) = false := by simp [h0, h5]
                        clear y1 y2 h4 h0 h5
                        go_wp2
                        go_quiet (fail)
                        go_wp2
                        go_roundw
                        case rel => exact ⟨q + 1, by omega, by go_num, bdraw hbq _⟩
                        case measure => simp [intOf]; omega
                      · have g3 : (x == 0) = false := by simp [h5]
                        clear y1 y2 h4 h0 h5
                        go_wp2
                        go_quiet (fail)
                        go_wp2
                        go_roundw
                        case rel => exact ⟨q + 1, by omega, by go_num, bdraw hbq _⟩
                        case measure => simp [intOf]; omega
                · obtain rfl : q = k := by omega
                  have hbz := btrans HBA hbq
                  clear VA VLA hbq HBA
                  go_wp2
                  go_roundw
                  case rel => exact ⟨t + 1, by omega, by go_num, hbz⟩
                  case measure => simp [intOf]; omega
            · obtain rfl : t = j := by omega
              go_wp2
              go_ret
              exact ⟨rfl, btrans HB7 hb⟩
end Go.Proofs.Ytapnidhokpkmdaa
