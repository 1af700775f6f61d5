/- The walk of FnWays. -/
import Derived.Test.YtdjambejppanoaaMX
import Derived.Test.YtdjambejppanoaaWN
import Derived.Test.YtdjambejppanoaaDRN
import Derived.BigQuiet
namespace Go.Proofs.Ytdjambejppanoaa
open Go.RowKit
set_option maxRecDepth 20000 in
set_option maxHeartbeats 6400000 in
theorem walkWaysD (a : Option Addr) (cap : Nat) (zs : List Int) (w : World) (hz : Bytes w a zs) (hn : zs.length ≤ maxLen) :
    Calls Try.prog 3 #[.slice a zs.length cap] w fun e w' => e = .returned (.bool true) ∧ Below w.heap.size w w' := by
  have CB := cbig a cap zs.length w hn
  go_enter Try.func3, Try.ntmps3
  go_wp2_with fail
  refine CB.mono ?_
  rintro e w1 ⟨rfl, hw⟩
  subst w1
  by_cases hb : 1048576 < zs.length
  · rw [decide_eq_true hb]
    go_wp2
    go_ret
    exact ⟨rfl, Below.refl _ _⟩
  rw [decide_eq_false hb]
  have hl : zs.length ≤ 1048576 := by omega
  clear CB
  go_wp2_with fail
  refine (cDrawNet a cap zs _ hz hl).mono ?_
  rintro e w2 ⟨n, es, ao, cp, rfl, hR, n2, hO, HB⟩
  obtain ⟨R, hN, hE⟩ := net_rg hR
  have hal := balloc w2 (.cells #[.int .i64 (n : Int), .slice ao es.length cp] 26)
  have X := Bx2.new w2 (.int .i64 (n : Int)) (.slice ao es.length cp) 26
  have hEd := (Edges.own hO).below hal
  replace HB := btrans HB hal
  have hT := hide hR
  have hzB := hz.below HB
  clear hal hO hb hn hR
  obtain ⟨b0, b1⟩ := id X
  go_wp2_with fail
  generalize w2.alloc (.cells #[.int .i64 (n : Int), .slice ao es.length cp] 26) = w3 at *
  generalize w2.heap.size = tb at *
  have CAT : ∀ k w', k ≤ 100000 → Below w3.heap.size w3 w' → Calls Try.prog 12 #[.slice a zs.length cap, .int .i64 (k : Nat)] w' fun e w2 => e = .returned (.int .i64 (atZ zs k)) ∧ w2 = w' := fun k w' hk h => cat a cap zs k w' (hzB.below h) hl hk
  have CT2 : ∀ w', Below w3.heap.size w3 w' → Calls Try.prog 12 #[.slice a zs.length cap, .int .i64 2] w' fun e w2 => e = .returned (.int .i64 (atZ zs 2)) ∧ w2 = w' := fun w' h => CAT 2 w' (by omega) h
  have CT3 : ∀ w', Below w3.heap.size w3 w' → Calls Try.prog 12 #[.slice a zs.length cap, .int .i64 3] w' fun e w2 => e = .returned (.int .i64 (atZ zs 3)) ∧ w2 = w' := fun w' h => CAT 3 w' (by omega) h
  have at2 := atZ_in hz 2
  have at3 := atZ_in hz 3
  clear CAT hz hzB
  generalize atZ zs 2 = z2 at *
  generalize atZ zs 3 = z3 at *
  obtain ⟨f, hf, hfn⟩ : ∃ f : Nat, z2.tmod (n : Int) = (f : Int) ∧ f < n := ⟨(z2.tmod (n : Int)).toNat, by
    rw [Int.tmod_eq_emod_of_nonneg at2.1]
    have := Int.emod_nonneg z2 (show (n : Int) ≠ 0 by omega)
    have := Int.emod_lt_of_pos z2 (show (0 : Int) < (n : Int) by omega)
    exact ⟨by omega, by omega⟩⟩
  obtain ⟨t, ht, htn⟩ : ∃ t : Nat, z3.tmod (n : Int) = (t : Int) ∧ t < n := ⟨(z3.tmod (n : Int)).toNat, by
    rw [Int.tmod_eq_emod_of_nonneg at3.1]
    have := Int.emod_nonneg z3 (show (n : Int) ≠ 0 by omega)
    have := Int.emod_lt_of_pos z3 (show (0 : Int) < (n : Int) by omega)
    exact ⟨by omega, by omega⟩⟩
  have hn0 : ((n : Int) == 0) = false := beq_eq_false_iff_ne.2 (by omega)
  have hn1 : ¬ n = 0 := by omega
  have wf : IntKind.i64.wrap (f : Int) = (f : Int) := wrap_in _ (by omega) (by omega)
  have wt : IntKind.i64.wrap (t : Int) = (t : Int) := wrap_in _ (by omega) (by omega)
  clear at2 at3
  go_quiet (first | (go_at_call 12; with_reducible refine Calls.quiet_of_same (CT2 _ (bdraw (Below.refl _ _) _))) | (go_at_call 12; with_reducible refine Calls.quiet_of_same (CT3 _ (bdraw (Below.refl _ _) _))))
  have hd := bdraw (Below.refl w3.heap.size w3) nq
  replace X := X.below hd
  replace hEd := hEd.below hd
  replace HB := bdraw HB nq
  generalize w3.drewN nq = w4 at *
  clear b0 b1 CT2 CT3 hf ht wf wt hn0 hn1 hd
  have hfz : 0 ≤ (f : Int) ∧ (f : Int) < (n : Int) := by omega
  have htz : 0 ≤ (t : Int) ∧ (t : Int) < (n : Int) := by omega
  have hfB : nodeB (n : Int) (f : Int) = true := inB_yes (by omega) (by omega)
  have htB : nodeB (n : Int) (t : Int) = true := inB_yes (by omega) (by omega)
  obtain ⟨b0, b1⟩ := id X
  go_wp2_with fail
  clear b0 b1
  refine (cShortestI ao cp (n : Int) (f : Int) (t : Int) es _ hEd (by omega)).mono ?_
  rintro e w5 ⟨a5, c5, xs, r, rfl, hV, O5, hb⟩
  have hVh := hide hV
  have hxs := hV.small
  obtain ⟨T, hS, eX, eR⟩ := hV.inn hT.out hfB htB
  have hTr := hide hS
  have eXh := hide eX
  have eRh := hide eR
  clear eX eR
  have hcs := hS.cases R hfz
  have hI5 := Ints.own O5 rfl
  replace X := X.below hb
  replace hEd := hEd.below hb
  replace HB := btrans HB hb
  replace hcs := hide hcs
  clear hb O5 hV hS
  obtain ⟨b0, b1⟩ := id X
  go_wp2_with fail
  clear b0 b1
  refine (cShortestI ao cp (n : Int) (t : Int) (f : Int) es _ hEd (by omega)).mono ?_
  rintro e w6 ⟨a6, c6, ys, s, rfl, hV, -, hb⟩
  obtain ⟨U, hU, -, eS⟩ := hV.inn hT.out htB hfB
  obtain rfl : s = r := by rw [eS, eRh.out]; exact (hTr.out.back R hU hfz htz).symm
  replace X := X.below hb
  replace hEd := hEd.below hb
  replace HB := btrans HB hb
  replace hI5 := hI5.below hb
  have hreach := hTr.out.reach R hfz
  replace hcs := hcs.out
  rw [← eRh.out] at hreach hcs
  clear hb hV hU eS U
  obtain ⟨b0, b1⟩ := id X
  go_wp2_with fail
  clear b0 b1
  refine (cReachI ao cp (n : Int) (f : Int) es _ hEd (by omega)).mono ?_
  rintro e w7 ⟨a7, c7, rs, rfl, hRV, O7, hb⟩
  have hI : IsRch (n : Int) es (f : Int) rs := by
    rcases hRV with ⟨-, -, h⟩ | ⟨h, -⟩
    · exact h
    · exact absurd ⟨hT.out, hfB⟩ h
  have hrl := hRV.small
  have hI7 := Ints.own O7 rfl
  have hmem : decide ((t : Int) ∈ rs) = decide (0 ≤ s) := by
    rw [decide_eq_decide, hI.2, hreach]
    exact ⟨fun h => h.2, fun h => ⟨htz, h⟩⟩
  have C0 := cWithinL a7 c7 rs (t : Int) w7 hI7 (by omega)
  rw [hmem] at C0
  replace X := X.below hb
  replace hEd := hEd.below hb
  replace HB := btrans HB hb
  replace hI5 := hI5.below hb
  clear hb hRV O7 hI hI7 hmem hreach
  generalize hd0 : decide (0 ≤ s) = d0 at *
  go_wp2_with fail
  refine C0.mono ?_
  rintro e w8 ⟨rfl, hw⟩
  subst w8
  clear C0
  obtain ⟨b0, b1⟩ := id X
  go_wp2_with fail
  clear b0 b1
  refine (cShortestS ao cp (n : Int) (f : Int) (t : Int) es _ hEd (by omega)).mono ?_
  rintro e w8 ⟨a8, c8, ys, q, rfl, hV, -, hb⟩
  obtain ⟨-, rfl⟩ := hVh.out.unique hV
  replace X := X.below hb
  replace hEd := hEd.below hb
  replace HB := btrans HB hb
  replace hI5 := hI5.below hb
  clear hb hV hVh
  rcases hcs with ⟨h0, h1, h2, -⟩ | ⟨h0, h1, -⟩
  · have hlt : ¬ s < 0 := by omega
    have hwB := hTr.out.walk hT.out hfz (by rw [← eRh.out]; exact h0)
    rw [← eXh.out, ← eRh.out] at hwB
    have CW := fun W h1 h2 => cWalkI ao a5 cp c5 (n : Int) (f : Int) es xs W h1 h2 (by omega) (by omega)
    have CL := fun W h1 h2 => cWayLenI ao a5 cp c5 (n : Int) (f : Int) es xs W h1 h2 (by omega) (by omega)
    rw [hwB] at CW CL
    simp only [lenOW] at CL
    clear hwB
    obtain ⟨b0, b1⟩ := id X
    go_wp2_with fail
    clear b0 b1
    refine (CW _ hEd hI5).mono ?_
    rintro e w9 ⟨rfl, hb⟩
    replace X := X.below hb
    replace hEd := hEd.below hb
    replace HB := btrans HB hb
    replace hI5 := hI5.below hb
    clear hb CW
    obtain ⟨b0, b1⟩ := id X
    go_wp2_with fail
    clear b0 b1
    refine (CL _ hEd hI5).mono ?_
    rintro e w10 ⟨rfl, hb⟩
    replace X := X.below hb
    replace hEd := hEd.below hb
    replace HB := btrans HB hb
    clear hb CL hI5
    have hTR := hide (fun (k : Nat) (hk : k < n) A B (ha : StV es (f : Int) (k : Int) A) (hb : StV es (k : Int) (t : Int) B) (a0 : 0 ≤ A.len) (b0 : 0 ≤ B.len) => (show s ≤ A.len + B.len from by
      have := hTr.out.tri R ha hb hfz (by omega) a0 b0
      rw [← eRh.out] at this
      exact this))
    clear eRh eXh hTr
    go_wp2
    go_loopw [14, 15, 16, 17, 18] (fun kv _ _ _ _ wr => ∃ k : Nat, k ≤ n ∧ kv = .int .i64 (k : Int) ∧ Bx2 wr tb (.int .i64 (n : Int)) (.slice ao es.length cp) ∧ Edges wr ao es ∧ Below w.heap.size w wr) (fun kv _ _ _ _ _ => n - (intOf kv).toNat)
    case atStart => exact ⟨0, Nat.zero_le _, rfl, X, hEd, HB⟩
    case round =>
      clear X hEd HB
      obtain ⟨k, hkn, rfl, X, hEd, HB⟩ := hrel
      by_cases hk : k < n
      · have hkz : 0 ≤ (k : Int) ∧ (k : Int) < (n : Int) := by omega
        have hkz2 : (k : Int) < (n : Int) := hkz.2
        have hkB : nodeB (n : Int) (k : Int) = true := inB_yes (by omega) (by omega)
        obtain ⟨b0, b1⟩ := id X
        go_wp2_with fail
        clear b0 b1
        refine (cShortestI ao cp (n : Int) (f : Int) (k : Int) es _ hEd (by omega)).mono ?_
        rintro e w5 ⟨a5, c5, us, ra, rfl, hV, -, hb⟩
        obtain ⟨A, hA, -, eA⟩ := hV.inn hT.out hfB hkB
        replace eA := hide eA
        replace hA := hide hA
        replace X := X.below hb
        replace hEd := hEd.below hb
        replace HB := btrans HB hb
        clear hb hV
        obtain ⟨b0, b1⟩ := id X
        go_wp2_with fail
        clear b0 b1
        refine (cShortestI ao cp (n : Int) (k : Int) (t : Int) es _ hEd (by omega)).mono ?_
        rintro e w6 ⟨a6, c6, us, rb, rfl, hV, -, hb⟩
        obtain ⟨B, hB, -, eB⟩ := hV.inn hT.out hkB htB
        replace eA := eA.out
        replace hA := hA.out
        have h3 := hTR.out k hk A B hA hB
        have hca := hA.cases R hfz
        have hcb := hB.cases R hkz
        rw [← eA, ← eB] at h3
        rw [← eA] at hca
        rw [← eB] at hcb
        replace X := X.below hb
        replace hEd := hEd.below hb
        replace HB := btrans HB hb
        clear hb hV hA hB eA eB
        have ha5 : ra ≤ 3000000 := by rcases hca with ⟨-, h, -⟩ | ⟨h, -⟩ <;> omega
        have hb5 : rb ≤ 3000000 := by rcases hcb with ⟨-, h, -⟩ | ⟨h, -⟩ <;> omega
        clear hca hcb
        by_cases ha : 0 ≤ ra
        · by_cases hb : 0 ≤ rb
          · have h4 := h3 ha hb
            have hw : IntKind.i64.wrap (ra + rb) = ra + rb := wrap_in _ (by omega) (by omega)
            have hlt2 : ¬ (ra + rb < s) := by omega
            clear h3
            go_wp2
            all_goals exact ⟨⟨k + 1, by omega, by go_num, X, hEd, HB⟩, by simp [intOf]; omega⟩
          · clear h3
            go_wp2
            all_goals exact ⟨⟨k + 1, by omega, by go_num, X, hEd, HB⟩, by simp [intOf]; omega⟩
        · clear h3
          go_wp2
          all_goals exact ⟨⟨k + 1, by omega, by go_num, X, hEd, HB⟩, by simp [intOf]; omega⟩
      · obtain rfl : k = n := by omega
        obtain ⟨b0, b1⟩ := id X
        go_wp2
        go_ret
        exact ⟨rfl, HB⟩
  · subst h0
    obtain rfl : xs = [] := by rw [eXh.out, h1]; rfl
    clear hTr
    go_wp2
    go_ret
    exact ⟨rfl, HB⟩
end Go.Proofs.Ytdjambejppanoaa
