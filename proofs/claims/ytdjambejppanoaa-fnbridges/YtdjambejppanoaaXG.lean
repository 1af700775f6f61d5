/- The walk of FnBridges. -/
import Derived.Test.YtdjambejppanoaaMBX
import Derived.Test.YtdjambejppanoaaBI
import Derived.Test.YtdjambejppanoaaBS
import Derived.Test.YtdjambejppanoaaDRN
import Derived.BigQuiet
namespace Go.Proofs.Ytdjambejppanoaa
open Go.RowKit
set_option maxRecDepth 20000 in
set_option maxHeartbeats 6400000 in
theorem walkBridgesD (a : Option Addr) (cap : Nat) (zs : List Int) (w : World) (hz : Bytes w a zs) (hn : zs.length ≤ maxLen) :
    Calls Try.prog 4 #[.slice a zs.length cap] w fun e w' => e = .returned (.bool true) ∧ Below w.heap.size w w' := by
  have CB := cbig a cap zs.length w hn
  go_enter Try.func4, Try.ntmps4
  go_wp2_with fail
  refine CB.mono ?_
  rintro e w1 ⟨rfl, hw⟩
  subst w1
  by_cases hb : 1048576 < zs.length
  · rw [decide_eq_true hb]
    go_wp2
    go_ret
    exact ⟨rfl, Below.refl _ _⟩
  rw [decide_eq_false hb]
  have hl : zs.length ≤ 1048576 := by omega
  clear CB
  go_wp2_with fail
  refine (cDrawNet a cap zs _ hz hl).mono ?_
  rintro e w2 ⟨n, es, ao, cp, rfl, hR, n2, hO, HB⟩
  obtain ⟨R, hN, hE⟩ := net_rg hR
  obtain ⟨hcp, hcm⟩ : es.length ≤ cp ∧ cp ≤ maxLen := by
    rcases hO.2 with ⟨h, h0⟩ | ⟨g, c, cur, h, -, -, h1, h2, -⟩
    · injection h with e1 e2 e3
      exact ⟨by omega, by unfold maxLen; omega⟩
    · injection h with e1 e2 e3
      subst e3
      exact ⟨h1, h2⟩
  have hal := balloc w2 (.cells #[.int .i64 (n : Int), .slice ao es.length cp] 26)
  have X := Bx2.new w2 (.int .i64 (n : Int)) (.slice ao es.length cp) 26
  have hEd := (Edges.own hO).below hal
  replace HB := btrans HB hal
  have hT := hide hR
  clear hal hO hz hb hl hn hR
  obtain ⟨b0, b1⟩ := id X
  go_wp2_with fail
  generalize w2.alloc (.cells #[.int .i64 (n : Int), .slice ao es.length cp] 26) = w3 at *
  generalize w2.heap.size = tb at *
  clear b0 b1
  refine (cBridgesI ao cp (n : Int) es _ hEd (by omega) hcp hcm).mono ?_
  rintro e w4 ⟨a4, c4, bs, rfl, hV, O4, hb⟩
  have hI4 := Ints.own O4 rfl
  have hbl := hV.small
  replace X := X.below hb
  replace hEd := hEd.below hb
  replace HB := btrans HB hb
  clear hb O4
  have hVh := hide hV
  clear hV
  obtain ⟨b0, b1⟩ := id X
  go_wp2_with fail
  clear b0 b1
  refine (cBridgesS ao cp (n : Int) es _ hEd (by omega)).mono ?_
  rintro e w5 ⟨a5, c5, bs2, rfl, hV2, O5, hb⟩
  obtain rfl := hVh.out.unique hV2
  have hI5 := Ints.own O5 rfl
  replace X := X.below hb
  replace hEd := hEd.below hb
  replace HB := btrans HB hb
  replace hI4 := hI4.below hb
  clear hb O5 hV2
  go_wp2_with fail
  refine (cSameInts a4 a5 c4 c5 bs _ hI4 hI5 (by omega)).mono ?_
  rintro e w6 ⟨rfl, hb⟩
  replace X := X.below hb
  replace hEd := hEd.below hb
  replace HB := btrans HB hb
  replace hI4 := hI4.below hb
  clear hb hI5
  have hBrT : Hid (BrTo es es.length bs) := by
    rcases hVh.out with ⟨-, h⟩ | ⟨h, -⟩
    · exact hide h
    · rw [hT.out] at h; cases h
  clear hVh
  go_wp2
  go_loopw [5, 6, 7, 8, 9, 10] (fun iv _ _ _ _ _ wr => ∃ i : Nat, i ≤ es.length ∧ iv = .int .i64 (i : Int) ∧ Ints wr a4 bs ∧ Bx2 wr tb (.int .i64 (n : Int)) (.slice ao es.length cp) ∧ Edges wr ao es ∧ Below w.heap.size w wr) (fun iv _ _ _ _ _ _ => es.length - (intOf iv).toNat)
  case atStart => exact ⟨0, Nat.zero_le _, rfl, hI4, X, hEd, HB⟩
  case round =>
    clear hI4 X hEd HB
    obtain ⟨i, hil, rfl, hI4, X, hEd, HB⟩ := hrel
    by_cases hlt : i < es.length
    · have hlt' : (i : Int) < (es.length : Int) := by omega
      have hE1 := R.nd i hlt
      have e0 : es[i] = es.getD i EdgeV.zero := by simp [List.getD, hlt]
      rw [e0] at hE1
      obtain ⟨⟨ha0, ha1⟩, ⟨hb0, hb1⟩, -⟩ := hE1
      obtain ⟨t, ht⟩ : ∃ t : Nat, (es.getD i EdgeV.zero).a = (t : Int) := ⟨(es.getD i EdgeV.zero).a.toNat, by omega⟩
      obtain ⟨u, hu⟩ : ∃ u : Nat, (es.getD i EdgeV.zero).b = (u : Int) := ⟨(es.getD i EdgeV.zero).b.toNat, by omega⟩
      have htN : t < n := by omega
      have huN : u < n := by omega
      have htz : (t : Int) < (n : Int) := by omega
      have huz : (u : Int) < (n : Int) := by omega
      have hAp := hide (fun ps h => Brg.apart (N := n) (ps := ps) ht hu htN huN h)
      have hUse := hide (fun (T : TrialV) (h : Brg es i) (hT : StV es (t : Int) (u : Int) T) => Brg.uses hlt h (by rw [ht, hu]; exact hT))
      have hMem := hide (show (i : Int) ∈ bs ↔ Brg es i by
        rw [hBrT.out.2]
        exact ⟨fun h => by simpa using h.2, fun h => ⟨by omega, by simpa using h⟩⟩)
      have CC := fun W (h : Edges W ao es) => cCutI ao cp (n : Int) (i : Int) es W h (by omega) hcp hcm
      rw [(cut_at hT.out hlt).1, (cut_at hT.out hlt).2] at CC
      have hNE := hide (netB_erase hT.out i)
      have hLE : (es.eraseIdx i).length + 1 = es.length := by rw [List.length_eraseIdx, if_pos hlt]; omega
      obtain ⟨bk, off, rfl, hc⟩ : ∃ bk off, ao = some ⟨bk, off, none⟩ ∧ (∀ i, i < es.length → ∀ W, Edges W (some ⟨bk, off, none⟩) es → W.cell? ⟨bk, off + i * 4, none⟩ = some (.int .i64 (es.getD i EdgeV.zero).a) ∧ W.cell? ⟨bk, off + i * 4 + 1, none⟩ = some (.int .i64 (es.getD i EdgeV.zero).b)) := by
        rcases id hEd with h | ⟨bk, off, h1, h2⟩
        · rw [h] at hlt; simp at hlt
        · refine ⟨bk, off, h1, fun i hi W h => ?_⟩
          rcases h with h | ⟨bk', off', h3, h4⟩
          · rw [h] at hi; simp at hi
          · cases h3; exact ⟨(h4 i hi).1, (h4 i hi).2.1⟩
      have hcE := hide (hc i hlt)
      rw [ht, hu] at hcE
      clear hc ha0 ha1 hb0 hb1 e0
      obtain ⟨b0, b1⟩ := id X
      go_wp2_with fail
      clear b0 b1
      refine (CC _ hEd).mono ?_
      rintro e w7 ⟨a7, c7, rfl, O7, hb⟩
      have hal := balloc w7 (.cells #[.int .i64 (n : Int), .slice a7 (es.eraseIdx i).length c7] 26)
      have Z := Bx2.new w7 (.int .i64 (n : Int)) (.slice a7 (es.eraseIdx i).length c7) 26
      have hE7 := (Edges.own O7).below hal
      replace hal := btrans hb hal
      replace X := X.below hal
      replace hEd := hEd.below hal
      replace HB := btrans HB hal
      replace hI4 := hI4.below hal
      clear hal hb O7 CC
      generalize hcl : es.eraseIdx i = cs at *
      replace hcl := hide hcl
      obtain ⟨d0, d1⟩ := id Z
      go_wp2_with fail
      clear d0 d1
      generalize w7.alloc (.cells #[.int .i64 (n : Int), .slice a7 cs.length c7] 26) = w8 at *
      generalize w7.heap.size = cb at *
      refine (cPartsI a7 c7 (n : Int) cs _ hE7 (by omega)).mono ?_
      rintro e w9 ⟨a9, c9, ps, rfl, hV, O9, hb⟩
      obtain ⟨hpl, hP⟩ : ps.length = n ∧ (∀ j : Nat, (j : Int) < (n : Int) → Prt (n : Int) cs (j : Int) (ps.getD j 0)) := by
        rcases hV with ⟨-, h1, h2⟩ | ⟨h1, -⟩
        · exact ⟨by omega, h2⟩
        · rw [hNE.out] at h1; cases h1
      have hap := hAp.out ps hP
      rw [hpl] at O9 ⊢
      obtain ⟨g9, rfl, -, -⟩ := int_first O9 (by omega) hpl
      have f1 := (int_at O9 (i := t) (by omega)).1
      have f2 := (int_at O9 (i := u) (by omega)).1
      replace X := X.below hb
      replace hEd := hEd.below hb
      replace HB := btrans HB hb
      replace hI4 := hI4.below hb
      replace Z := Z.below hb
      replace hap := hide hap
      replace hpl := hide hpl
      clear hb hV hP O9 hAp
      obtain ⟨b0, b1⟩ := id X
      obtain ⟨d0, d1⟩ := id Z
      obtain ⟨p0, p1⟩ := hcE.out _ hEd
      have hlen : (cs.length : Int) = (es.length : Int) - 1 := by omega
      have hw1 : IntKind.i64.wrap ((es.length : Int) - 1) = (es.length : Int) - 1 := wrap_in _ (by omega) (by omega)
      have hq1 : ((cs.length : Int) != (es.length : Int) - 1) = false := by simp; omega
      replace hlen := hide hlen
      replace hLE := hide hLE
      generalize ps.getD t 0 = za at *
      generalize ps.getD u 0 = zb at *
      obtain ⟨ap, hapv⟩ : ∃ ap, (za != zb) = ap := ⟨_, rfl⟩
      have hBA : Hid (ap = true ↔ Brg es i) := hide (by rw [← hapv, hap.out]; simp)
      have hin : decide ((i : Int) ∈ bs) = ap := by
        rw [Bool.eq_iff_iff, hBA.out, ← hMem.out]; simp
      clear hap hMem
      go_wp2
      go_quiet (fail)
      have hd := bdraw (Below.refl w9.heap.size w9) nq
      replace X := X.below hd
      replace hEd := hEd.below hd
      replace HB := bdraw HB nq
      replace hI4 := hI4.below hd
      generalize w9.drewN nq = w10 at *
      have C0 := cWithinL a4 c4 bs (i : Int) w10 hI4 (by omega)
      rw [hin] at C0
      clear f1 f2 b0 b1 d0 d1 p0 p1 hd Z hin
      go_wp2_with fail
      refine C0.mono ?_
      rintro e w11 ⟨rfl, hw⟩
      subst w11
      clear C0 hapv
      obtain ⟨b0, b1⟩ := id X
      obtain ⟨p0, p1⟩ := hcE.out _ hEd
      have hD := fun W (h : Below w10.heap.size w10 W) => hcE.out W (hEd.below h)
      replace hD := hide hD
      go_wp2_with fail
      go_region_held3 (fun w' => w'.cell? ⟨tb, 0, none⟩ = some (.int .i64 (n : Int)) ∧ w'.cell? ⟨tb, 1, none⟩ = some (.slice (some ⟨bk, off, none⟩) es.length cp) ∧ w'.cell? ⟨bk, off + i * 4, none⟩ = some (.int .i64 (t : Int)) ∧ w'.cell? ⟨bk, off + i * 4 + 1, none⟩ = some (.int .i64 (u : Int))) (go_keep)
        (first
          | (go_at_call 13; refine (cShortestI (some ⟨bk, off, none⟩) cp (n : Int) (t : Int) (u : Int) es _ (hEd.below (bdraw (Below.refl _ _) 1)) (by omega)).mono ?_; rintro e w11 ⟨a11, c11, ws, rr, rfl, hV, O11, hb11⟩; have b11 := undrew hb11; obtain ⟨u0, u1⟩ := X.below b11; obtain ⟨z0, z1⟩ := hD.out _ b11))
      obtain ⟨T, hS, eX, -⟩ := hV.inn hT.out (inB_yes (by omega) (by omega)) (inB_yes (by omega) (by omega))
      have hws := hV.small
      have hI11 := Ints.own O11 rfl
      have hin : ap = true → (i : Int) ∈ ws := fun h => by rw [eX]; exact hUse.out T (hBA.out.1 h) hS
      replace X := X.below b11
      replace hEd := hEd.below b11
      replace HB := btrans HB b11
      replace hI4 := hI4.below b11
      clear hb11 b11 u0 u1 z0 z1 b0 b1 p0 p1 hV O11 eX hS hD
      have C0 := cWithinL a11 c11 ws (i : Int) w11 hI11 (by omega)
      cases ap
      · clear C0 hin
        go_wp2
        go_roundw
        case rel => exact ⟨i + 1, by omega, by go_num, hI4, X, hEd, HB⟩
        case measure => simp [intOf]; omega
      · rw [decide_eq_true (hin rfl)] at C0
        clear hin
        go_wp2_with fail
        refine C0.mono ?_
        rintro e w12 ⟨rfl, hw⟩
        subst w12
        go_wp2
        go_roundw
        case rel => exact ⟨i + 1, by omega, by go_num, hI4, X, hEd, HB⟩
        case measure => simp [intOf]; omega
    · obtain rfl : i = es.length := by omega
      obtain ⟨b0, b1⟩ := id X
      go_wp2
      go_ret
      exact ⟨rfl, HB⟩
end Go.Proofs.Ytdjambejppanoaa
