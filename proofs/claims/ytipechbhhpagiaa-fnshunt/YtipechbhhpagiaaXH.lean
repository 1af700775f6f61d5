/- The walk of FnHump. -/
import Derived.Test.YtipechbhhpagiaaDA
import Derived.Test.YtipechbhhpagiaaSH
import Derived.Deep.RegionHeld3
import Derived.BigQuiet
namespace Go.Proofs.Ytipechbhhpagiaa
open Go.RowKit
set_option maxHeartbeats 800000 in
theorem cSameInts (a1 a2 : Option Addr) (c1 c2 : Nat) (xs : List Int) (w : World) (h1 : Ints w a1 xs) (h2 : Ints w a2 xs) (hl : xs.length ≤ 1048576) :
    Calls Try.prog 26 #[.slice a1 xs.length c1, .slice a2 xs.length c2] w fun e w' => e = .returned (.bool true) ∧ Below w.heap.size w w' := by
  go_enter Try.func26, Try.ntmps26
  go_wp2
  go_loopw [5] (fun i wr => ∃ k : Nat, k ≤ xs.length ∧ i = .int .i64 k ∧ Below w.heap.size w wr) (fun i _ => xs.length - (intOf i).toNat)
  case atStart => exact ⟨0, Nat.zero_le _, rfl, Below.refl _ _⟩
  case round =>
    obtain ⟨k, hk, rfl, hb⟩ := hrel
    by_cases hlt : k < xs.length
    · rcases h1 with h | ⟨b1, o1, rfl, q1⟩
      · simp [h] at hlt
      rcases h2 with h | ⟨b2, o2, rfl, q2⟩
      · simp [h] at hlt
      have p1 := ble hb (q1 k hlt)
      have p2 := ble hb (q2 k hlt)
      clear q1 q2
      generalize xs.getD k 0 = y at *
      go_wp2
      go_quiet (fail)
      go_wp2
      go_roundw
      case rel => exact ⟨k + 1, by omega, by go_num, bdraw hb _⟩
      case measure => simp [intOf]; omega
    · obtain rfl : k = xs.length := by omega
      clear h1 h2
      go_wp2
      go_ret
      exact ⟨rfl, hb⟩


/-- What is told of a train over the hump. -/
structure TldH (l out : List Int) (b : Int) (n : Int) : Prop where
  len : out.length = l.length
  inv : invV out = 0
  n0 : 0 ≤ n
  n14 : n ≤ 14
  zero : n = 0 ↔ l.length = 0
  count : ∀ x, l.count x = out.count x
  train : trainB out = true
  again : ∀ o m, SortR out b o m → o = out
theorem tldH {l out : List Int} {b n : Int} (hT : trainB l = true) (hb : 2 ≤ b) (hb10 : b ≤ 10) (h : SortR l b out n) : TldH l out b n := by
  have hok : okS l b = true := by simp [okS, hT, inB_yes hb hb10]
  obtain ⟨k, rfl, hD, rfl⟩ := h.good hok
  have hbn : 0 < b.toNat := by omega
  have hP := pass_perm (b := b.toNat) (xs := l) hbn k
  have hTr := pass_train (b := b.toNat) hbn hT k
  have hS := pass_sorted hbn hT hD
  refine ⟨pass_len hbn k, ?_, by omega, ?_, ?_, fun x => (hP.count_eq x).symm, hTr, fun o m ho => ?_⟩
  · rw [invV, if_pos hTr, inv_sorted hS]; rfl
  · have := hD.le14 (by omega) (mx_le hT); omega
  · have h1 := hD.zero
    have h2 := mx_zero hT
    constructor
    · intro h; exact h2.1 (h1.1 (by omega))
    · intro h; have := h1.2 (h2.2 h); omega
  · have hok2 : okS (passL b.toNat l k) b = true := by simp [okS, hTr, inB_yes hb hb10]
    obtain ⟨k2, rfl, hD2, rfl⟩ := ho.good hok2
    exact sorted_unique (pass_perm hbn k2) (pass_sorted hbn hTr hD2) hS
/-- .. and of one pass by the last digit. -/
structure TldP (l ps : List Int) (b : Int) : Prop where
  len : ps.length = l.length
  wag : ∀ x ∈ ps, 1 ≤ x ∧ x ≤ 9999
  up : ∀ i, (hi : i + 1 < ps.length) → ps[i] % b ≤ ps[i + 1] % b
theorem tldP {l ps : List Int} {b : Int} (hT : trainB l = true) (hb : 2 ≤ b) (hb10 : b ≤ 10) (h : PassR l b 0 ps) : TldP l ps b := by
  have hok : okP l b 0 = true := by simp [okP, hT, inB_yes hb hb10, inB_yes (show (0:Int) ≤ 0 by omega) (show (0:Int) ≤ 13 by omega)]
  have hbn : 0 < b.toNat := by omega
  have e := h.good hok
  have hS : Srt (1 * (b.toNat : Int)) ps := by rw [e]; exact coup_srt (by omega) (by omega) (srt_one l) _
  rw [Int.one_mul, Int.toNat_of_nonneg (by omega)] at hS
  refine ⟨by rw [e]; exact hump_len hbn, fun x hx => trainB_wag hT x ((hump_perm hbn).mem_iff.1 (e ▸ hx)), fun i hi => ?_⟩
  exact List.pairwise_iff_getElem.1 hS i (i + 1) (by omega) hi (by omega)
theorem count_take {xs : List Int} {x : Int} {k : Nat} (hk : k < xs.length) : (xs.take (k + 1)).count x = (xs.take k).count x + (if xs[k] = x then 1 else 0) := by
  rw [List.take_succ_eq_append_getElem hk, List.count_append, List.count_singleton]
  by_cases h : xs[k] = x
  · simp [h]
  · simp [h]
theorem count_take_le {xs : List Int} {x : Int} {k : Nat} : (xs.take k).count x ≤ k := Nat.le_trans List.count_le_length (by rw [List.length_take]; omega)

set_option maxRecDepth 20000 in
set_option maxHeartbeats 12800000 in
theorem walkHumpD (a : Option Addr) (cap : Nat) (bs : List Int) (w : World) (hz : Bytes w a bs) (hn : bs.length ≤ maxLen) :
    Calls Try.prog 4 #[.slice a bs.length cap] w fun e w' => e = .returned (.bool true) ∧ Below w.heap.size w w' := by
  go_enter Try.func4, Try.ntmps4
  go_wp2_with fail
  refine (cbig a cap bs.length _ hn).mono ?_
  rintro e w1 ⟨rfl, hw⟩
  subst w1
  by_cases hB : 1048576 < bs.length
  · rw [decide_eq_true hB]
    go_wp2
    go_ret
    exact ⟨rfl, Below.refl _ _⟩
  rw [decide_eq_false hB]
  have hl : bs.length ≤ 1048576 := by omega
  clear hB
  go_wp2_with fail
  refine (cDrawW cap a bs _ hz hl).mono ?_
  rintro e w1 ⟨l, v, rfl, h17, hT, O, HB⟩
  obtain ⟨la, lc, rfl, -, hlc, -⟩ := RowI.form (.inl O)
  have C3 : Calls Try.prog 22 #[.slice a bs.length cap, .int .i64 3] w1 fun e w' => e = .returned (.int .i64 (atZ bs 3)) ∧ w' = w1 := cat a cap bs 3 w1 (hz.below HB) hl (by omega)
  have hzr := atZ_in hz 3
  generalize atZ bs 3 = z at *
  obtain ⟨r, hr, r0, r1⟩ : ∃ r : Int, z % 9 = r ∧ 0 ≤ r ∧ r ≤ 8 := ⟨z % 9, rfl, by omega, by omega⟩
  have hr2 : z.tmod 9 = r := by rw [Int.tmod_eq_emod_of_nonneg hzr.1]; exact hr
  go_wp2_with fail
  refine C3.mono ?_
  rintro e w2 ⟨rfl, hw⟩
  subst w2
  have hwm : IntKind.i64.wrap (2 + r) = 2 + r := wrap_in _ (by omega) (by omega)
  obtain ⟨b, hb⟩ : ∃ b, 2 + r = b := ⟨_, rfl⟩
  rw [hb] at hwm
  have hb2 : 2 ≤ b := by omega
  have hb10 : b ≤ 10 := by omega
  have CS := cSortI la lc l b w1 (Ints.own O rfl) (by omega)
  go_wp2_with fail
  refine CS.mono ?_
  rintro e w2 ⟨vo, out, n, rfl, hS, Oo, hbo⟩
  have hTl := tldH hT hb2 hb10 hS
  replace O := own_keep O hbo
  replace HB := btrans HB hbo
  clear CS C3 hbo hr hr2 hb hS hz
  obtain ⟨oa, oc, rfl, -, hoc, -⟩ := RowI.form (.inl Oo)
  have CI := cInvI oa oc out w2 (Ints.own Oo rfl) hoc (by have := hTl.len; omega)
  rw [hTl.inv] at CI
  rw [hTl.len] at CI Oo hoc ⊢
  have hz1 : (!((n == 0) == ((l.length : Int) == 0))) = false := by
    have h1 := hTl.zero
    by_cases h : l.length = 0
    · simp [h1.2 h, h]
    · have h2 : (n == 0) = false := by simpa using fun e => h (h1.1 e)
      have h3 : ((l.length : Int) == 0) = false := by simp only [beq_eq_false_iff_ne]; omega
      rw [h2, h3]; rfl
  have n0 := hTl.n0
  have n14 := hTl.n14
  have hn0 : decide (n < 0) = false := by simp; omega
  have hn14 : decide (14 < n) = false := by simp; omega
  replace hTl := hide hTl
  go_wp2_with fail
  refine CI.mono ?_
  rintro e w3 ⟨rfl, hw⟩
  subst w3
  clear CI
  go_wp2
  have hcnt : Hid (∀ x, l.count x = out.count x) := hide hTl.out.count
  have hlen : Hid (out.length = l.length) := hide hTl.out.len
  clear hz1 hn0 hn14
  have HBh := hide HB
  have Oh := hide O
  have Ooh := hide Oo
  go_loopw [7, 8, 9, 10] (fun i _ _ _ wr => ∃ k : Nat, k ≤ l.length ∧ i = .int .i64 k ∧ Below w2.heap.size w2 wr) (fun i _ _ _ _ => l.length - (intOf i).toNat)
  case atStart => exact ⟨0, Nat.zero_le _, rfl, Below.refl _ _⟩
  case round =>
    obtain ⟨k, hk, rfl, hbr⟩ := hrel
    by_cases hkl : k < l.length
    · obtain ⟨x, hx⟩ : ∃ x, l[k] = x := ⟨_, rfl⟩
      have ex : l.getD k 0 = x := by simp [List.getD, hkl, hx]
      obtain ⟨b1, o1, rfl, q1⟩ : ∃ b1 o1, la = some ⟨b1, o1, none⟩ ∧ ∀ i, i < l.length → w2.cell? ⟨b1, o1 + i, none⟩ = some (Value.int .i64 (l.getD i 0)) := by
        rcases Ints.own O rfl with h | h
        · simp [h] at hkl
        · exact h
      obtain ⟨b2, o2, rfl, q2⟩ : ∃ b2 o2, oa = some ⟨b2, o2, none⟩ ∧ ∀ i, i < l.length → w2.cell? ⟨b2, o2 + i, none⟩ = some (Value.int .i64 (out.getD i 0)) := by
        rcases Ints.own Oo hlen.out with h | h
        · have := hlen.out; simp [h] at this; omega
        · rw [hlen.out] at h; exact h
      have q0 := q1 k hkl
      rw [ex] at q0
      replace q1 := hide q1
      replace q2 := hide q2
      clear O Oo HB
      go_wp2
      generalize wr = wo at *
      go_loopw [8, 9, 10] (fun p q i wr => ∃ j c d : Nat, j ≤ l.length ∧ i = .int .i64 j ∧ p = .int .i64 c ∧ q = .int .i64 d ∧ c ≤ j ∧ d ≤ j ∧ Hid (c = (l.take j).count x ∧ d = (out.take j).count x) ∧ Below w2.heap.size w2 wr) (fun _ _ i _ => l.length - (intOf i).toNat)
      case atStart => exact ⟨0, 0, 0, Nat.zero_le _, rfl, rfl, rfl, by omega, by omega, hide ⟨by simp, by simp⟩, hbr⟩
      case round =>
        obtain ⟨j, c, d, hj, rfl, rfl, rfl, hcj, hdj, hcd, hb3⟩ := hrel
        by_cases hjl : j < l.length
        · have hjo : j < out.length := by have := hlen.out; omega
          have r1 := ble hb3 (q1.out j hjl)
          have r2 := ble hb3 (q2.out j hjl)
          have r0 := ble hb3 q0
          have f1 : l.getD j 0 = l[j] := by simp [List.getD, hjl]
          have f2 : out.getD j 0 = out[j] := by simp [List.getD, hjo]
          rw [f1] at r1
          rw [f2] at r2
          have g1 := hide (count_take (x := x) hjl)
          have g2 := hide (count_take (x := x) hjo)
          clear f1 f2 hx ex
          generalize l[j] = y at *
          generalize out[j] = u at *
          have r1' := ble (bdraw (Below.refl _ wr) 1) r1
          have r2' := ble (bdraw (Below.refl _ wr) 1) r2
          have r0' := ble (bdraw (Below.refl _ wr) 1) r0
          by_cases hy : y = x <;> by_cases hu : u = x
          · have hcd2 : Hid (c + 1 = (l.take (j + 1)).count x ∧ d + 1 = (out.take (j + 1)).count x) := hide (by rw [g1.out, g2.out, if_pos hy, if_pos hu]; have := hcd.out; omega)
            clear hcd g1 g2
            subst hy
            subst hu
            go_wp2
            go_quiet (fail)
            go_wp2
            go_quiet (fail)
            go_wp2
            go_roundw
            case rel => exact ⟨j + 1, c + 1, d + 1, by omega, by go_num, by go_num, by go_num, by omega, by omega, hcd2, bdraw hb3 _⟩
            case measure => simp [intOf]; omega
          · have hcd2 : Hid (c + 1 = (l.take (j + 1)).count x ∧ d = (out.take (j + 1)).count x) := hide (by rw [g1.out, g2.out, if_pos hy, if_neg hu]; have := hcd.out; omega)
            clear hcd g1 g2
            subst hy
            go_wp2
            go_quiet (fail)
            go_wp2
            go_quiet (fail)
            go_wp2
            go_roundw
            case rel => exact ⟨j + 1, c + 1, d, by omega, by go_num, by go_num, rfl, by omega, by omega, hcd2, bdraw hb3 _⟩
            case measure => simp [intOf]; omega
          · have hcd2 : Hid (c = (l.take (j + 1)).count x ∧ d + 1 = (out.take (j + 1)).count x) := hide (by rw [g1.out, g2.out, if_neg hy, if_pos hu]; have := hcd.out; omega)
            clear hcd g1 g2
            subst hu
            go_wp2
            go_quiet (fail)
            go_wp2
            go_quiet (fail)
            go_wp2
            go_roundw
            case rel => exact ⟨j + 1, c, d + 1, by omega, by go_num, rfl, by go_num, by omega, by omega, hcd2, bdraw hb3 _⟩
            case measure => simp [intOf]; omega
          · have hcd2 : Hid (c = (l.take (j + 1)).count x ∧ d = (out.take (j + 1)).count x) := hide (by rw [g1.out, g2.out, if_neg hy, if_neg hu]; have := hcd.out; omega)
            clear hcd g1 g2
            go_wp2
            go_quiet (fail)
            go_wp2
            go_quiet (fail)
            go_wp2
            go_roundw
            case rel => exact ⟨j + 1, c, d, by omega, by go_num, rfl, rfl, by omega, by omega, hcd2, bdraw hb3 _⟩
            case measure => simp [intOf]; omega
        · obtain rfl : j = l.length := by omega
          obtain rfl : c = d := by
            obtain ⟨h1, h2⟩ := hcd.out
            rw [List.take_length] at h1
            rw [← hlen.out, List.take_length] at h2
            rw [h1, h2]; exact hcnt.out x
          clear hcd
          go_wp2
          go_roundw
          case rel => exact ⟨k + 1, by omega, by go_num, hb3⟩
          case measure => simp [intOf]; omega
    · obtain rfl : k = l.length := by omega
      replace O := own_keep O hbr
      replace Oo := own_keep Oo hbr
      replace HB := btrans HB hbr
      clear hbr Oh Ooh HBh
      have CS := cSortI oa oc out b wr (Ints.own Oo hlen.out) (by have := hlen.out; omega)
      rw [hlen.out] at CS
      go_wp2_with fail
      refine CS.mono ?_
      rintro e w4 ⟨va, ag, n2, rfl, hS2, Oa, hba⟩
      have hag := hTl.out.again _ _ hS2
      subst hag
      rw [hlen.out] at Oa
      replace O := own_keep O hba
      replace Oo := own_keep Oo hba
      replace HB := btrans HB hba
      clear CS hba hS2
      obtain ⟨aa, ac, rfl⟩ := own_form Oa
      have CP := cPassI la lc l b 0 w4 (Ints.own O rfl) (by omega)
      go_wp2_with fail
      refine CP.mono ?_
      rintro e w5 ⟨vp, ps, rfl, hP, Op, hbp⟩
      have hTp := tldP hT hb2 hb10 hP
      have hlp := hTp.len
      rw [hlp] at Op
      replace O := own_keep O hbp
      replace Oo := own_keep Oo hbp
      replace Oa := own_keep Oa hbp
      replace HB := btrans HB hbp
      clear CP hbp hP
      obtain ⟨pa, pc, rfl⟩ := own_form Op
      have CE := cSameInts aa oa ac oc ag w5 (Ints.own Oa hlen.out) (Ints.own Oo hlen.out) (by have := hlen.out; omega)
      rw [hlen.out] at CE
      replace hlp := hide hlp
      replace hTp := hide hTp
      have IP : Ints w5 pa ps := Ints.own Op hlp.out
      go_wp2_with fail
      refine CE.mono ?_
      rintro e w6 ⟨rfl, hb6⟩
      replace O := own_keep O hb6
      replace IP := IP.below hb6
      replace HB := btrans HB hb6
      clear hb6 CE Oa Oo Op
      have CI := cInvI la lc l w6 (Ints.own O rfl) hlc (by omega)
      have CJ := cInvS la lc l w6 (Ints.own O rfl) (by omega)
      generalize invV l = iv at *
      go_wp2_with fail
      refine CI.mono ?_
      rintro e w7 ⟨rfl, hw⟩
      subst w7
      clear CI
      go_wp2_with fail
      refine CJ.mono ?_
      rintro e w7 ⟨rfl, hb7⟩
      replace IP := IP.below hb7
      replace HB := btrans HB hb7
      clear hb7 CJ O
      go_wp2
      generalize w7 = W at *
      go_loopw [14] (fun i wr => ∃ j : Nat, 1 ≤ j ∧ j ≤ l.length + 1 ∧ i = .int .i64 j ∧ Below W.heap.size W wr) (fun i _ => l.length + 1 - (intOf i).toNat)
      case atStart => exact ⟨1, by omega, by omega, rfl, Below.refl _ _⟩
      case round =>
        obtain ⟨j, hj1, hj, rfl, hbr⟩ := hrel
        by_cases hjl : j < l.length
        · obtain ⟨pb, po, rfl, q⟩ : ∃ pb po, pa = some ⟨pb, po, none⟩ ∧ ∀ i, i < l.length → W.cell? ⟨pb, po + i, none⟩ = some (Value.int .i64 (ps.getD i 0)) := by
            rcases IP with h | h
            · have := hlp.out; simp [h] at this; omega
            · rw [hlp.out] at h; exact h
          obtain ⟨p, hp⟩ : ∃ p, j = p + 1 := ⟨j - 1, by omega⟩
          have hpl : p + 1 < ps.length := by have := hlp.out; omega
          have r1 := ble hbr (q p (by omega))
          have r2 := ble hbr (q j hjl)
          have f1 : ps.getD p 0 = ps[p] := by simp [List.getD, show p < ps.length by omega]
          have f2 : ps.getD j 0 = ps[p + 1] := by subst hp; simp [List.getD, hpl]
          rw [f1] at r1
          rw [f2] at r2
          have hup := hTp.out.up p hpl
          have w1' := hTp.out.wag ps[p] (List.getElem_mem _)
          have w2' := hTp.out.wag ps[p + 1] (List.getElem_mem _)
          clear q f1 f2
          generalize ps[p] = y at *
          generalize ps[p + 1] = u at *
          have e1 : (j : Int) - 1 = (p : Int) := by omega
          have e2 : y.tmod b = y % b := Int.tmod_eq_emod_of_nonneg (by omega)
          have e3 : u.tmod b = u % b := Int.tmod_eq_emod_of_nonneg (by omega)
          have y0 := Int.emod_nonneg y (show b ≠ 0 by omega)
          have y1 := Int.emod_lt_of_pos y (show 0 < b by omega)
          have u0 := Int.emod_nonneg u (show b ≠ 0 by omega)
          have u1 := Int.emod_lt_of_pos u (show 0 < b by omega)
          replace hp := hide hp
          have hpl2 : p < l.length := by have := hp.out; omega
          have nb0 : b ≠ 0 := by omega
          have nb1 : b ≠ -1 := by omega
          clear hpl
          generalize y % b = Y at *
          generalize u % b = U at *
          have hgt : ¬ U < Y := by omega
          have v1 : IntKind.i64.wrap Y = Y := wrap_in _ (by omega) (by omega)
          have v2 : IntKind.i64.wrap U = U := wrap_in _ (by omega) (by omega)
          go_wp2
          go_quiet (fail)
          go_wp2
          go_roundw
          case rel => exact ⟨j + 1, by omega, by omega, by go_num, bdraw hbr _⟩
          case measure => simp [intOf]; omega
        · have HB9 := btrans HB hbr
          clear IP
          go_wp2
          go_ret
          exact ⟨rfl, HB9⟩
end Go.Proofs.Ytipechbhhpagiaa
