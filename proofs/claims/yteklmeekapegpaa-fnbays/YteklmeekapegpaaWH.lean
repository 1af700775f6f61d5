/- The walk of FnBays. -/
import Derived.Test.YteklmeekapegpaaWG
namespace Go.Proofs.Yteklmeekapegpaa
open Go.RowKit

set_option maxHeartbeats 800000 in
theorem cSame (a1 a2 : Option Addr) (c1 c2 : Nat) (xs : List Int) (w : World) (h1 : Ints w a1 xs) (h2 : Ints w a2 xs) (hl : xs.length ≤ 1048576) :
    Calls Try.prog 20 #[.slice a1 xs.length c1, .slice a2 xs.length c2] w fun e w' => e = .returned (.bool true) ∧ Below w.heap.size w w' := by
  go_enter Try.func20, Try.ntmps20
  go_wp2
  go_loopw [5] (fun i wr => ∃ k : Nat, k ≤ xs.length ∧ i = .int .i64 k ∧ Below w.heap.size w wr) (fun i _ => xs.length - (intOf i).toNat)
  case atStart => exact ⟨0, Nat.zero_le _, rfl, Below.refl _ _⟩
  case round =>
    obtain ⟨k, hk, rfl, hb⟩ := hrel
    by_cases hlt : k < xs.length
    · rcases h1 with h | ⟨b1, o1, rfl, q1⟩
      · simp [h] at hlt
      rcases h2 with h | ⟨b2, o2, rfl, q2⟩
      · simp [h] at hlt
      have p1 := ble hb (q1 k hlt)
      have p2 := ble hb (q2 k hlt)
      clear q1 q2
      generalize xs.getD k 0 = y at *
      go_wp2
      go_quiet (fail)
      go_wp2
      go_roundw
      case rel => exact ⟨k + 1, by omega, by go_num, bdraw hb _⟩
      case measure => simp [intOf]; omega
    · obtain rfl : k = xs.length := by omega
      clear h1 h2
      go_wp2
      go_ret
      exact ⟨rfl, hb⟩

/-- How many of the first i hold bay b in the minute M. -/
def heldN (ss : List StayV) (g : Int) (ls : List Int) (M : Int) (b i : Nat) : Nat := (List.range i).countP (fun x => decide (ls.getD x 0 = (b : Int)) && holdsB (ss.getD x StayV.zero) g M)
theorem heldN_succ (ss : List StayV) (g : Int) (ls : List Int) (M : Int) (b i : Nat) : heldN ss g ls M b (i + 1) = heldN ss g ls M b i + (if (decide (ls.getD i 0 = (b : Int)) && holdsB (ss.getD i StayV.zero) g M) = true then 1 else 0) := by
  unfold heldN
  rw [List.range_succ, List.countP_append, List.countP_cons, List.countP_nil, Nat.zero_add]
theorem heldN_le (ss : List StayV) (g : Int) (ls : List Int) (M : Int) (b i : Nat) : heldN ss g ls M b i ≤ i := by
  have := List.countP_le_length (p := fun x => decide (ls.getD x 0 = (b : Int)) && holdsB (ss.getD x StayV.zero) g M) (l := List.range i)
  simpa [heldN] using this
theorem heldN_zero (ss : List StayV) (g : Int) (ls : List Int) (M : Int) (b i : Nat) : heldN ss g ls M b i = 0 ↔ freeTo ss g ls M b i = true := by
  unfold heldN freeTo
  rw [List.countP_eq_zero, List.all_eq_true]
  constructor
  · intro h x hx; have := h x hx; simp only [Bool.not_eq_true', Bool.not_eq_true] at this ⊢; exact this
  · intro h x hx; have := h x hx; simp only [Bool.not_eq_true', Bool.not_eq_true] at this ⊢; exact this
theorem count_one {P : Nat → Bool} : ∀ i, (∀ x y, x < i → y < i → P x = true → P y = true → x = y) → (List.range i).countP P ≤ 1
  | 0, _ => by simp
  | i + 1, h => by
    rw [List.range_succ, List.countP_append, List.countP_cons, List.countP_nil, Nat.zero_add]
    have ih := count_one i (fun x y hx hy => h x y (by omega) (by omega))
    by_cases hp : P i = true
    · rw [if_pos hp]
      have : (List.range i).countP P = 0 := by
        rw [List.countP_eq_zero]
        intro x hx hpx
        have := h x i (by have := List.mem_range.1 hx; omega) (by omega) hpx hp
        have := List.mem_range.1 hx
        omega
      omega
    · rw [if_neg hp]; omega
theorem heldN_one {zs : List Int} {ss : List StayV} {g : Int} {ls : List Int} (h : AOk zs ss g ls) (M : Int) (b : Nat) : heldN ss g ls M b ss.length ≤ 1 := by
  refine count_one _ (fun x y hx hy h1 h2 => ?_)
  simp only [Bool.and_eq_true, decide_eq_true_eq] at h1 h2
  rw [holds_eq] at h1 h2
  simp only [decide_eq_true_eq] at h1 h2
  refine Classical.byContradiction fun hne => ?_
  have hb : before ss x y ∨ before ss y x := by unfold before; omega
  rcases hb with hb | hb
  · exact h.clean y x hy hx ⟨by rw [h1.1, h2.1], by omega, hb, by omega⟩
  · exact h.clean x y hx hy ⟨by rw [h1.1, h2.1], by omega, hb, by omega⟩
theorem free_mem {ss : List StayV} {g : Int} {ls : List Int} {M : Int} {b n : Nat} (hb : b < n) : (b : Int) ∈ intsOf (freeL ss g ls M n) ↔ freeTo ss g ls M b ss.length = true := by
  rw [intsOf_mem]
  unfold freeL
  rw [List.mem_filter, List.mem_range]
  exact ⟨fun h => h.2, fun h => ⟨hb, h⟩⟩
/-- Somebody among the first k took bay b ahead of stay i. -/
def tookB (ss : List StayV) (g : Int) (ls : List Int) (i b x : Nat) : Bool := decide (ls.getD x 0 = (b : Int)) && (decide (fA ss x < fA ss i ∨ (fA ss x = fA ss i ∧ x < i)) && decide (fA ss i < tA ss x + g))
def takenTo (ss : List StayV) (g : Int) (ls : List Int) (i b k : Nat) : Bool := (List.range k).any (tookB ss g ls i b)
theorem takenTo_succ (ss : List StayV) (g : Int) (ls : List Int) (i b k : Nat) : takenTo ss g ls i b (k + 1) = (takenTo ss g ls i b k || tookB ss g ls i b k) := by
  unfold takenTo
  rw [List.range_succ, List.any_append]; simp
/-- Who gets none could have none. -/
theorem taken_or {zs : List Int} {ss : List StayV} {g : Int} {ls : List Int} {i b : Nat} (h : IsAssign zs ss g (fun k => ls.getD k 0)) (hi : i < ss.length) (hb : b < zs.length) (hm : ls.getD i 0 < 0) : takenTo ss g ls i b ss.length = true ∨ zs.getD b 0 < lenA ss i := by
  rcases h i hi with ⟨b', _, _, h3⟩ | ⟨h1, _⟩
  · have h3' : ls.getD i 0 = b' := h3
    omega
  · refine Classical.byContradiction fun hn => h1 b ⟨hb, ?_, fun k hk hbk e => ?_⟩
    · rcases Int.lt_or_le (zs.getD b 0) (lenA ss i) with hx | hx
      · exact absurd (.inr hx) hn
      · exact hx
    · refine Classical.byContradiction fun hx => hn (.inl ?_)
      unfold takenTo
      rw [List.any_eq_true]
      refine ⟨k, List.mem_range.2 hk, ?_⟩
      unfold tookB
      simp only [Bool.and_eq_true, decide_eq_true_eq]
      exact ⟨e, hbk, by omega⟩

set_option maxRecDepth 20000 in
set_option maxHeartbeats 12800000 in
theorem walkBays (a : Option Addr) (cap : Nat) (bs : List Int) (w : World) (hz0 : Bytes w a bs) (hm : bs.length ≤ maxLen) :
    Calls Try.prog 4 #[.slice a bs.length cap] w fun e w' => e = .returned (.bool true) ∧ Below w.heap.size w w' := by
  go_enter Try.func4, Try.ntmps4
  go_wp2_with fail
  refine (cbig a cap bs.length _ hm).mono ?_
  rintro e w1 ⟨rfl, hw⟩
  subst w1
  by_cases hbig : 1048576 < bs.length
  · have hd : decide (1048576 < bs.length) = true := decide_eq_true hbig
    rw [hd]
    go_wp2
    go_ret
    exact ⟨rfl, Below.refl _ _⟩
  have hd : decide (1048576 < bs.length) = false := decide_eq_false hbig
  have hbl : bs.length ≤ 1048576 := by omega
  rw [hd]
  clear hd
  go_wp2_with fail
  refine (cDrawRight cap a bs _ hz0 hbl).mono ?_
  rintro e w1 hD
  obtain ⟨u, v, zs, ss, g, rfl, hok, O1, O2, hb⟩ := hD
  obtain ⟨za, zc, rfl⟩ : ∃ x y, u = .slice x zs.length y := own_form O1
  obtain ⟨ua, uc, rfl⟩ : ∃ x y, v = .slice x ss.length y := own_form O2
  have hz : Ints w1 za zs := Ints.own O1 rfl
  have hy : Stays w1 ua ss := Stays.own O2
  have hq := hok
  simp only [assignOk, Bool.and_eq_true] at hq
  obtain ⟨hZ, hS, hG⟩ := hq
  obtain ⟨hg1, hg2⟩ := inB_true hG
  obtain ⟨hz1, hz12⟩ := bays_len hZ
  have h60 := stays_len hS
  have hSt := hide (fun k (hk : k < ss.length) => stays_get hS hk)
  replace hok := hide hok
  clear hZ hS hG O1 O2
  have CA := fun V (h : Below w1.heap.size w1 V) => cAssignI za zc zs ua uc ss g V (hz.below h) (by omega) (hy.below h) (by omega)
  have CB := fun V (h : Below w1.heap.size w1 V) => cAssignS za zc zs ua uc ss g V (hz.below h) (by omega) (hy.below h) (by omega)
  go_wp2_with fail
  refine (CA _ (Below.refl _ _)).mono ?_
  rintro e w2 ⟨ls, hL, ⟨v, rfl, hol⟩, hb2⟩
  obtain ⟨la, lc, rfl⟩ := own_form hol
  obtain ⟨hll, hAs⟩ := list_of hL hok.out
  have hAk := hide (IsAssign.ok hok.out hll hAs)
  replace hAs := hide hAs
  have hle : ((ls.length : Int) != (ss.length : Int)) = false := by simp [hll]
  have hl60 : ls.length ≤ 60 := by omega
  replace hll := hide hll
  replace hL := hide hL
  have hLi : Ints w2 la ls := Ints.own hol rfl
  clear CA hol
  have CK := fun V (h : Below w2.heap.size w2 V) => cAssignOkI za zc zs ua uc ss g la lc ls V (hz.below (btrans hb2 h)) (by omega) (hy.below (btrans hb2 h)) (by omega) (hLi.below h)
  have CF := fun V M (h : Below w2.heap.size w2 V) => cFreeI za zc zs ua uc ss g la lc ls M V (hz.below (btrans hb2 h)) (by omega) (hy.below (btrans hb2 h)) (by omega) (hLi.below h)
  go_wp2_with fail
  refine (CK _ (Below.refl _ _)).mono ?_
  rintro e w3 ⟨⟨r, rfl, hr⟩, hb3⟩
  have hrt := hr.2 hAk.out
  subst hrt
  clear hr CK
  go_wp2_with fail
  refine (CB _ (btrans hb2 hb3)).mono ?_
  rintro e w4 ⟨ls2, hL2, ⟨v, rfl, hol2⟩, hb4⟩
  obtain rfl := IsList.unique hL2 hL.out
  obtain ⟨la2, lc2, rfl⟩ := own_form hol2
  have hb24 := btrans hb3 hb4
  have CX := cSame la la2 lc lc2 ls2 w4 (hLi.below hb24) (Ints.own hol2 rfl) (by omega)
  clear hL2 hol2 CB hb3 hb4
  go_wp2_with fail
  refine CX.mono ?_
  rintro e w5 ⟨rfl, hb5⟩
  have hb25 := btrans hb24 hb5
  have hA3 := atZ_in hz0 3
  have CT := cat a cap bs 3 w5 (hz0.below (btrans hb (btrans hb2 hb25))) hbl (by omega)
  clear CX hb24 hb5
  go_wp2_with fail
  refine CT.mono ?_
  rintro e w6 ⟨rfl, hw⟩
  subst w6
  generalize atZ bs 3 = q at *
  clear CT
  go_wp2_with fail
  generalize q % 80 = M at *
  refine (CF _ M hb25).mono ?_
  rintro e w6 ⟨L, hFI, ⟨v, rfl, hoF⟩, hb6⟩
  obtain ⟨fa, fc, rfl⟩ := own_form hoF
  have hLE : Hid (L = intsOf (freeL ss g ls2 M zs.length)) := hide (by
    rcases hFI with ⟨h, _⟩ | ⟨_, h⟩
    · exact absurd hAk.out h
    · exact h)
  have hMem : Hid (∀ x, x < zs.length → (((x : Int) ∈ L) ↔ heldN ss g ls2 M x ss.length = 0)) := hide (fun x hx => by rw [hLE.out, free_mem hx, heldN_zero])
  have hLl : L.length ≤ 1048576 := by rw [hLE.out]; have := freeL_len ss g ls2 M zs.length; simp only [intsOf, List.length_map]; omega
  have hFi : Ints w6 fa L := Ints.own hoF rfl
  have hb26 := btrans hb25 hb6
  have hb16 := btrans hb2 hb26
  have hbW := btrans hb hb16
  have hz6 := hz.below hb16
  have hy6 := hy.below hb16
  have hL6 := hLi.below hb26
  have hOne := hide (fun x => heldN_one hAk.out M x)
  clear hoF hFI hLE CF hb6 hb25 hb26 hz hy hLi hb2 hb hz0 hb16
  have CW := fun x : Int => cWithinL fa fc L x w6 hFi hLl
  go_wp2
  go_loop [9] (fun x => ∃ k : Nat, k ≤ zs.length ∧ x = .int .i64 k) (fun x => zs.length - (intOf x).toNat)
  case atStart => exact ⟨0, Nat.zero_le _, rfl⟩
  case round =>
    obtain ⟨b, hbz, rfl⟩ := hrel
    by_cases hlt : b < zs.length
    · have hlt' : (b : Int) < (zs.length : Int) := by omega
      have CWb := CW (b : Int)
      have hMb := hide (hMem.out b hlt)
      have hOb := hOne.out b
      clear CW
      go_wp2
      go_loop [10, 11] (fun h x => ∃ i : Nat, i ≤ ls2.length ∧ h = .int .i64 (heldN ss g ls2 M b i) ∧ x = .int .i64 i) (fun _ x => ls2.length - (intOf x).toNat)
      case atStart => exact ⟨0, Nat.zero_le _, rfl, rfl⟩
      case round =>
        obtain ⟨i, hil, rfl, rfl⟩ := hrel
        by_cases hi2 : i < ls2.length
        · have hi2' : (i : Int) < (ls2.length : Int) := by omega
          have his : i < ss.length := by rw [← hll.out]; exact hi2
          have his' : (i : Int) < (ss.length : Int) := by omega
          rcases hL6 with h | ⟨lb, lo, rfl, hc⟩
          · simp [h] at hi2
          have q0 := hc i hi2
          rcases hy6 with h | ⟨sb, so, rfl, hsc⟩
          · simp [h] at his
          obtain ⟨p0, p1, -⟩ := hsc i his
          have hSu := hide (heldN_succ ss g ls2 M b i)
          have hHe : Hid (holdsB (ss.getD i StayV.zero) g M = decide ((ss.getD i StayV.zero).f ≤ M ∧ M < (ss.getD i StayV.zero).t + g)) := hide (holds_eq ss g M i)
          have hle1 := heldN_le ss g ls2 M b i
          obtain ⟨x1, x2, x3⟩ := hSt.out i his
          clear hc hsc
          generalize ls2.getD i 0 = li at *
          generalize ss.getD i StayV.zero = y at *
          obtain ⟨f, t, ln⟩ := y
          dsimp only at *
          obtain ⟨n1, hn1⟩ : ∃ n1, n1 = heldN ss g ls2 M b (i + 1) := ⟨_, rfl⟩
          rw [← hn1] at hSu
          generalize heldN ss g ls2 M b i = n0 at *
          have hwt : IntKind.i64.wrap (t + g) = t + g := wrap_in _ (by omega) (by omega)
          have hw1 : IntKind.i64.wrap ((n0 : Int) + 1) = (n0 : Int) + 1 := wrap_in _ (by omega) (by omega)
          by_cases hlb : li = (b : Int)
          · have hle2 : ((li : Int) == (b : Int)) = true := by simp [hlb]
            by_cases hf : f ≤ M
            · by_cases ht : M < t + g
              · have hS : Hid ((n1 : Int) = (n0 : Int) + 1) := hide (by rw [hSu.out, hHe.out]; simp [hlb, hf, ht])
                clear hSu hHe
                go_wp2
                go_round
                case rel => exact ⟨i + 1, by omega, by rw [← hn1, hS.out], by go_num⟩
                case measure => simp [intOf]; omega
              · have hS : Hid (n1 = n0) := hide (by rw [hSu.out, hHe.out]; simp [ht])
                clear hSu hHe
                go_wp2
                go_round
                case rel => exact ⟨i + 1, by omega, by rw [← hn1, hS.out], by go_num⟩
                case measure => simp [intOf]; omega
            · have hS : Hid (n1 = n0) := hide (by rw [hSu.out, hHe.out]; simp [hf])
              clear hSu hHe
              go_wp2
              go_round
              case rel => exact ⟨i + 1, by omega, by rw [← hn1, hS.out], by go_num⟩
              case measure => simp [intOf]; omega
          · have hle2 : ((li : Int) == (b : Int)) = false := by simp [hlb]
            have hS : Hid (n1 = n0) := hide (by rw [hSu.out]; simp [hlb])
            clear hSu hHe
            go_wp2
            go_round
            case rel => exact ⟨i + 1, by omega, by rw [← hn1, hS.out], by go_num⟩
            case measure => simp [intOf]; omega
        · obtain rfl : i = ls2.length := by omega
          have hi2' : ¬ ((ls2.length : Int) < (ls2.length : Int)) := by omega
          rw [← hll.out] at hMb hOb
          generalize heldN ss g ls2 M b ls2.length = hn at *
          have h1 : ¬ ((1 : Int) < (hn : Int)) := by omega
          have hEq : decide ((b : Int) ∈ L) = ((hn : Int) == 0) := by
            rw [Bool.eq_iff_iff, decide_eq_true_eq, beq_iff_eq, hMb.out]; omega
          rw [hEq] at CWb
          clear hMb hEq
          go_wp2_with fail
          refine CWb.mono ?_
          rintro e w7 ⟨rfl, hw⟩
          subst w7
          cases hc0 : ((hn : Int) == 0)
          · go_wp2
            go_round
            case rel => exact ⟨b + 1, by omega, by go_num⟩
            case measure => simp [intOf]; omega
          · go_wp2
            go_round
            case rel => exact ⟨b + 1, by omega, by go_num⟩
            case measure => simp [intOf]; omega
    · obtain rfl : b = zs.length := by omega
      have hlt' : ¬ ((zs.length : Int) < (zs.length : Int)) := by omega
      clear CW hMem hOne hFi
      go_wp2
      go_loopw [12] (fun x wr => ∃ i : Nat, i ≤ ls2.length ∧ x = .int .i64 i ∧ Below w6.heap.size w6 wr) (fun x _ => ls2.length - (intOf x).toNat)
      case atStart => exact ⟨0, Nat.zero_le _, rfl, Below.refl _ _⟩
      case round =>
        obtain ⟨i, hil, rfl, hb3⟩ := hrel
        by_cases hi2 : i < ls2.length
        · have hi2' : (i : Int) < (ls2.length : Int) := by omega
          have his : i < ss.length := by rw [← hll.out]; exact hi2
          have his' : (i : Int) < (ss.length : Int) := by omega
          rcases hL6 with h | ⟨lb, lo, rfl, hc⟩
          · simp [h] at hi2
          rcases hy6 with h | ⟨sb, so, rfl, hsc⟩
          · simp [h] at his
          have qi := hc i hi2
          obtain ⟨pi0, -, pi2⟩ := hsc i his
          have hTo := hide (fun x (hx : x < zs.length) (h : ls2.getD i 0 < 0) => taken_or hAs.out his hx h)
          have hfi : Hid (fA ss i = (ss.getD i StayV.zero).f) := rfl
          have hli : Hid (lenA ss i = (ss.getD i StayV.zero).l) := rfl
          rw [← hfi.out] at pi0
          rw [← hli.out] at pi2
          generalize hlg : ls2.getD i 0 = li at *
          generalize lenA ss i = ln at *
          go_wp2
          go_loopw [13] (fun x wr => ∃ b : Nat, b ≤ zs.length ∧ x = .int .i64 b ∧ Below w6.heap.size w6 wr) (fun x _ => zs.length - (intOf x).toNat)
          case atStart => exact ⟨0, Nat.zero_le _, rfl, hb3⟩
          case round =>
            obtain ⟨b, hbz, rfl, hb4⟩ := hrel
            have qi4 := ble hb4 qi
            by_cases hneg : li < 0
            · by_cases hbl2 : b < zs.length
              · have hbl2' : (b : Int) < (zs.length : Int) := by omega
                rcases hz6 with h | ⟨zb, zo, rfl, hzc⟩
                · simp [h] at hbl2
                have qz := hzc b hbl2
                have hOr := hide (hTo.out b hbl2 hneg)
                generalize hzg : zs.getD b 0 = zv at *
                go_wp2
                go_loopw [14, 15] (fun t x wr => ∃ k : Nat, k ≤ ls2.length ∧ t = .bool (takenTo ss g ls2 i b k) ∧ x = .int .i64 k ∧ Below w6.heap.size w6 wr) (fun _ x _ => ls2.length - (intOf x).toNat)
                case atStart => exact ⟨0, Nat.zero_le _, rfl, rfl, hb4⟩
                case round =>
                  obtain ⟨k, hkl, rfl, rfl, hb5⟩ := hrel
                  by_cases hk2 : k < ls2.length
                  · have hk2' : (k : Int) < (ls2.length : Int) := by omega
                    have hks : k < ss.length := by rw [← hll.out]; exact hk2
                    have hks' : (k : Int) < (ss.length : Int) := by omega
                    have r0 := ble hb5 (hc k hk2)
                    obtain ⟨r1, r2, -⟩ := hsc k hks
                    replace r1 := ble hb5 r1
                    replace r2 := ble hb5 r2
                    have ri := ble hb5 pi0
                    have hSu := hide (takenTo_succ ss g ls2 i b k)
                    have hTk : Hid (tookB ss g ls2 i b k = (decide (ls2.getD k 0 = (b : Int)) && (decide ((ss.getD k StayV.zero).f < fA ss i ∨ ((ss.getD k StayV.zero).f = fA ss i ∧ k < i)) && decide (fA ss i < (ss.getD k StayV.zero).t + g)))) := rfl
                    obtain ⟨x1, x2, x3⟩ := hSt.out k hks
                    generalize ls2.getD k 0 = lk at *
                    generalize ss.getD k StayV.zero = y at *
                    obtain ⟨f, t, lx⟩ := y
                    dsimp only at *
                    obtain ⟨nt, hnt⟩ : ∃ nt, nt = takenTo ss g ls2 i b (k + 1) := ⟨_, rfl⟩
                    rw [← hnt] at hSu
                    generalize takenTo ss g ls2 i b k = tk at *
                    generalize fA ss i = fi at *
                    have hwt : IntKind.i64.wrap (t + g) = t + g := wrap_in _ (by omega) (by omega)
                    have hsb : sb < wr.heap.size := cell_lt r1
                    have hlbs : lb < wr.heap.size := cell_lt r0
                    clear hOr hTo
                    by_cases hlb : lk = (b : Int)
                    · have e1 : ((lk : Int) == (b : Int)) = true := by simp [hlb]
                      by_cases hff : f < fi
                      · have e2 : decide (f < fi) = true := decide_eq_true hff
                        by_cases htt : fi < t + g
                        · have e3 : decide (fi < t + g) = true := decide_eq_true htt
                          have hS : Hid (nt = true) := hide (by rw [hSu.out, hTk.out]; simp [hlb, hff, htt])
                          clear hSu hTk
                          go_wp2
                          go_quiet (fail)
                          go_wp2
                          go_roundw
                          case rel => exact ⟨k + 1, by omega, by rw [← hnt, hS.out], by go_num, bdraw hb5 _⟩
                          case measure => simp [intOf]; omega
                        · have e3 : decide (fi < t + g) = false := decide_eq_false htt
                          have hS : Hid (nt = tk) := hide (by rw [hSu.out, hTk.out]; simp [htt])
                          clear hSu hTk
                          go_wp2
                          go_quiet (fail)
                          go_wp2
                          go_roundw
                          case rel => exact ⟨k + 1, by omega, by rw [← hnt, hS.out], by go_num, bdraw hb5 _⟩
                          case measure => simp [intOf]; omega
                      · have e2 : decide (f < fi) = false := decide_eq_false hff
                        by_cases hfe : f = fi
                        · have e4 : ((f : Int) == fi) = true := by simp [hfe]
                          by_cases hki : k < i
                          · have e5 : decide ((k : Int) < (i : Int)) = true := decide_eq_true (by omega)
                            by_cases htt : fi < t + g
                            · have e3 : decide (fi < t + g) = true := decide_eq_true htt
                              have hS : Hid (nt = true) := hide (by rw [hSu.out, hTk.out]; simp [hlb, hfe, hki, htt])
                              clear hSu hTk
                              go_wp2
                              go_quiet (fail)
                              go_wp2
                              go_roundw
                              case rel => exact ⟨k + 1, by omega, by rw [← hnt, hS.out], by go_num, bdraw hb5 _⟩
                              case measure => simp [intOf]; omega
                            · have e3 : decide (fi < t + g) = false := decide_eq_false htt
                              have hS : Hid (nt = tk) := hide (by rw [hSu.out, hTk.out]; simp [htt])
                              clear hSu hTk
                              go_wp2
                              go_quiet (fail)
                              go_wp2
                              go_roundw
                              case rel => exact ⟨k + 1, by omega, by rw [← hnt, hS.out], by go_num, bdraw hb5 _⟩
                              case measure => simp [intOf]; omega
                          · have e5 : decide ((k : Int) < (i : Int)) = false := decide_eq_false (by omega)
                            have hS : Hid (nt = tk) := hide (by rw [hSu.out, hTk.out]; simp [hff, hki])
                            clear hSu hTk
                            go_wp2
                            go_quiet (fail)
                            go_wp2
                            go_roundw
                            case rel => exact ⟨k + 1, by omega, by rw [← hnt, hS.out], by go_num, bdraw hb5 _⟩
                            case measure => simp [intOf]; omega
                        · have e4 : ((f : Int) == fi) = false := by simp [hfe]
                          have hS : Hid (nt = tk) := hide (by rw [hSu.out, hTk.out]; simp [hff, hfe])
                          clear hSu hTk
                          go_wp2
                          go_quiet (fail)
                          go_wp2
                          go_roundw
                          case rel => exact ⟨k + 1, by omega, by rw [← hnt, hS.out], by go_num, bdraw hb5 _⟩
                          case measure => simp [intOf]; omega
                    · have e1 : ((lk : Int) == (b : Int)) = false := by simp [hlb]
                      have hS : Hid (nt = tk) := hide (by rw [hSu.out, hTk.out]; simp [hlb])
                      clear hSu hTk
                      go_wp2
                      go_quiet (fail)
                      go_wp2
                      go_roundw
                      case rel => exact ⟨k + 1, by omega, by rw [← hnt, hS.out], by go_num, bdraw hb5 _⟩
                      case measure => simp [intOf]; omega
                  · obtain rfl : k = ls2.length := by omega
                    have hk2' : ¬ ((ls2.length : Int) < (ls2.length : Int)) := by omega
                    rw [← hll.out] at hOr
                    have r2 := ble hb5 pi2
                    have rz := ble hb5 qz
                    have hsb : sb < wr.heap.size := cell_lt r2
                    have hzb : zb < wr.heap.size := cell_lt rz
                    generalize takenTo ss g ls2 i b ls2.length = tk at *
                    cases tk
                    · have hzl : zv < ln := by
                        rcases hOr.out with h | h
                        · cases h
                        · exact h
                      have e1 : decide (ln ≤ zv) = false := decide_eq_false (by omega)
                      clear hOr
                      go_wp2
                      go_quiet (fail)
                      go_wp2
                      go_roundw
                      case rel => exact ⟨b + 1, by omega, by go_num, bdraw hb5 _⟩
                      case measure => simp [intOf]; omega
                    · clear hOr
                      go_wp2
                      go_quiet (fail)
                      go_wp2
                      go_roundw
                      case rel => exact ⟨b + 1, by omega, by go_num, bdraw hb5 _⟩
                      case measure => simp [intOf]; omega
              · obtain rfl : b = zs.length := by omega
                have hbl2' : ¬ ((zs.length : Int) < (zs.length : Int)) := by omega
                go_wp2
                go_roundw
                case rel => exact ⟨i + 1, by omega, by go_num, hb4⟩
                case measure => simp [intOf]; omega
            · go_wp2
              go_roundw
              case rel => exact ⟨i + 1, by omega, by go_num, hb4⟩
              case measure => simp [intOf]; omega
        · obtain rfl : i = ls2.length := by omega
          have hi2' : ¬ ((ls2.length : Int) < (ls2.length : Int)) := by omega
          have hbF := btrans hbW hb3
          go_wp2
          go_ret
          exact ⟨rfl, hbF⟩
end Go.Proofs.Yteklmeekapegpaa
