/- Phases of the program. -/
import Derived.Test.YtapnidhokpkmdaaPH
import Derived.Test.YtapnidhokpkmdaaRI
import Derived.Test.YtapnidhokpkmdaaB
import Derived.Test.YtapnidhokpkmdaaC
import Derived.Deep.RegionHeld3
namespace Go.Proofs.Ytapnidhokpkmdaa
open Go.RowKit

set_option maxHeartbeats 400000 in
theorem cPhOk (x : Int) (w : World) : Calls Try.prog 75 #[.int .i64 x] w fun e w' => e = .returned (.bool (inB x 0 3)) ∧ w' = w := by
  go_enter Try.func75, Try.ntmps75
  go_wp2_with fail
  refine (cWithin x 0 3 _).mono ?_
  rintro e w1 ⟨rfl, hw⟩
  subst w1
  go_wp2
  go_ret
  exact ⟨rfl, rfl⟩

set_option maxHeartbeats 1600000 in
theorem cAllPh (a : Option Addr) (cap : Nat) (fs : List Int) (w : World) (hf : Ints w a fs) (hl : fs.length ≤ 1048576) :
    Calls Try.prog 74 #[.slice a fs.length cap, .func (.func 75) #[] #[]] w fun e w' => e = .returned (.bool (fs.all (fun x => inB x 0 3))) ∧ w' = w := by
  go_enter Try.func74, Try.ntmps74
  go_wp2
  go_loop [9] (fun i => ∃ k : Nat, k ≤ fs.length ∧ i = .int .i64 k ∧ (fs.take k).all (fun x => inB x 0 3) = true) (fun i => fs.length - (intOf i).toNat)
  case atStart => exact ⟨0, Nat.zero_le _, rfl, by simp⟩
  case round =>
    obtain ⟨k, hk, rfl, hA⟩ := hrel
    by_cases hlt : k < fs.length
    · rcases hf with h | ⟨b, off, rfl, hc⟩
      · simp [h] at hlt
      have p0 := hc k hlt
      have e1 : fs.getD k 0 = fs[k] := by simp [List.getD, hlt]
      have G1 := hide (fun h => all_step (P := fun x => inB x 0 3) hlt hA h)
      have G0 := hide (fun h => all_bad (P := fun x => inB x 0 3) hlt h)
      rw [e1] at p0
      clear hA e1 hc
      generalize fs[k] = x at *
      go_wp2_with fail
      refine (cPhOk x _).mono ?_
      rintro e w1 ⟨rfl, hw⟩
      subst w1
      cases hg : inB x 0 3
      · have hB := hide (G0.out hg)
        clear G0 G1 hg
        go_wp2
        go_ret
        exact ⟨ret_bool hB.out.symm, rfl⟩
      · have hB := G1.out hg
        clear G0 G1 hg
        go_wp2
        go_round
        case rel => exact ⟨k + 1, by omega, by go_num, hB⟩
        case measure => simp [intOf]; omega
    · obtain rfl : k = fs.length := by omega
      have hB : Hid (fs.all (fun x => inB x 0 3) = true) := hide (by rwa [List.take_length] at hA)
      clear hA hf
      go_wp2
      go_ret
      exact ⟨ret_bool hB.out.symm, rfl⟩

set_option maxHeartbeats 1600000 in
theorem cSect (a b : Option Addr) (c d : Nat) (fs : List Int) (qs : List Bool) (w : World) (hf : Ints w a fs) (hl : fs.length ≤ 1048576) :
    Calls Try.prog 69 #[.slice a fs.length c, .slice b qs.length d] w fun e w' => e = .returned (.bool (phB fs qs)) ∧ w' = w := by
  have CA := cAllPh a c fs w hf hl
  have E : Hid (phB fs qs = (decide (fs.length ≤ 40) && fs.all (fun x => inB x 0 3) && decide (qs.length = fs.length - 1))) := rfl
  generalize phB fs qs = r at *
  generalize fs.all (fun x => inB x 0 3) = s at *
  generalize fs.length = n at *
  generalize qs.length = m at *
  have w1 : IntKind.i64.wrap ((n : Int) - 1) = (n : Int) - 1 := wrap_in _ (by omega) (by omega)
  by_cases h40 : n ≤ 40
  · have h41 : (n : Int) ≤ 40 := by omega
    have h42 : decide (n ≤ 40) = true := by simp; omega
    cases s
    · go_enter Try.func69, Try.ntmps69
      go_wp2_with fail
      refine CA.mono ?_
      rintro e w9 ⟨rfl, hw⟩
      subst w9
      go_wp2
      go_ret
      exact ⟨ret_bool (by rw [E.out, h42]; rfl), rfl⟩
    · by_cases h0 : n = 0
      · subst h0
        have e1 : Hid (r = decide (m = 0)) := hide (by rw [E.out]; simp)
        clear E
        go_enter Try.func69, Try.ntmps69
        go_wp2_with fail
        refine CA.mono ?_
        rintro e w9 ⟨rfl, hw⟩
        subst w9
        go_wp2
        go_ret
        refine ⟨ret_bool ?_, rfl⟩
        rw [e1.out, Bool.eq_iff_iff, beq_iff_eq, decide_eq_true_eq]
        omega
      · have e1 : Hid (r = decide (m = n - 1)) := hide (by rw [E.out, h42]; simp)
        have h1 : (0 : Int) < (n : Int) ∨ True := .inr trivial
        have h2 : ¬ ((n : Int) - 1 < 0) := by omega
        clear E h1
        go_enter Try.func69, Try.ntmps69
        go_wp2_with fail
        refine CA.mono ?_
        rintro e w9 ⟨rfl, hw⟩
        subst w9
        go_wp2
        all_goals go_ret
        all_goals refine ⟨ret_bool ?_, rfl⟩
        all_goals rw [e1.out, Bool.eq_iff_iff, beq_iff_eq, decide_eq_true_eq]
        all_goals omega
  · have h41 : ¬ (n : Int) ≤ 40 := by omega
    have h42 : decide (n ≤ 40) = false := by simp; omega
    go_enter Try.func69, Try.ntmps69
    go_wp2
    go_ret
    exact ⟨ret_bool (by rw [E.out, h42]; rfl), rfl⟩

set_option maxHeartbeats 800000 in
theorem cJoin (a b : Int) (w : World) : Calls Try.prog 71 #[.int .i64 a, .int .i64 b] w fun e w' => e = .returned (.int .i64 (jn a b)) ∧ w' = w := by
  have E : Hid (jn a b = if a = 0 ∨ a = b then b else if b = 0 then a else 4) := rfl
  generalize jn a b = r at *
  by_cases h1 : a = 0
  · subst h1
    go_enter Try.func71, Try.ntmps71
    go_wp2
    go_ret
    exact ⟨ret_int (by rw [E.out]; simp), rfl⟩
  · have g1 : (a == 0) = false := by simp [h1]
    by_cases h2 : a = b
    · subst h2
      go_enter Try.func71, Try.ntmps71
      go_wp2
      go_ret
      exact ⟨ret_int (by rw [E.out]; simp), rfl⟩
    · have g2 : (a == b) = false := by simp [h2]
      by_cases h3 : b = 0
      · have g3 : (b == 0) = true := by simp [h3]
        have e1 : Hid (r = a) := hide (by rw [E.out]; simp [h1, h3])
        clear h3 h2 E
        go_enter Try.func71, Try.ntmps71
        go_wp2
        go_ret
        exact ⟨ret_int e1.out.symm, rfl⟩
      · have g3 : (b == 0) = false := by simp [h3]
        have e1 : Hid (r = 4) := hide (by rw [E.out]; simp [h1, h2, h3])
        clear h3 h2 E
        go_enter Try.func71, Try.ntmps71
        go_wp2
        go_ret
        exact ⟨ret_int e1.out.symm, rfl⟩

theorem phC_yes {fs : List Int} {qs : List Bool} (h : phB fs qs = true) : phC fs qs = (List.range fs.length).map (ph (fA fs) (cA qs) fs.length) := by simp [phC, h]
theorem phC_no {fs : List Int} {qs : List Bool} (h : phB fs qs = false) : phC fs qs = [] := by simp [phC, h]
/-- A row of whole numbers of its own. -/
def AnsI (w : World) (C : List Int) (e : Ending) (w' : World) : Prop := ∃ v, e = .returned v ∧ w'.ownsRow w.heap.size 3 1 v C.length (C.map (Value.int .i64)) ∧ Below w.heap.size w w'
theorem infoI2 : ∃ i0, Try.prog.info? 3 = some i0 ∧ i0.zero = some (.int .i64 0) ∧ i0.size = 1 ∧ i0.bytes = 8 := info_parts infoInts
set_option maxRecDepth 20000 in
set_option maxHeartbeats 800000 in
theorem cClone (a : Option Addr) (cap : Nat) (l : List Int) (w : World) (he : Ints w a l) (hl : l.length ≤ 1048576) :
    Calls Try.prog 70 #[.slice a l.length cap] w fun e w' => ∃ v, e = .returned v ∧ w'.ownsRow w.heap.size 3 1 v l.length (enc l) ∧ Below w.heap.size w w' := by
  cases a with
  | none =>
    have h0 : l = [] := by
      rcases he with h | ⟨b, off, h, _⟩
      · exact h
      · cases h
    subst h0
    have hq : ∀ w, (binOp .eql 40 (.slice none 0 cap) (.slice none 0 0)).run Try.prog w = .ok (.bool true) w := fun w => Go.Lib.run_eql_slice_nil w _ _ none 0 cap 0 0 Try.underlying40
    go_enter Try.func70, Try.ntmps70
    go_wp2
    go_ret
    exact ⟨_, rfl, World.ownsRow_nil _ _ _ _, Below.refl _ _⟩
  | some x =>
    have hq : ∀ w, (binOp .eql 40 (.slice (some x) l.length cap) (.slice none 0 0)).run Try.prog w = .ok (.bool false) w := fun w => Go.Lib.run_eql_slice_nil w _ _ (some x) l.length cap 0 0 Try.underlying40
    have hal := balloc w (.cells #[] 3)
    have O0 : (w.alloc (.cells #[] 3)).ownsRow w.heap.size 3 1 (.slice (some ⟨w.heap.size, 0, none⟩) 0 0) ([] : List Int).length (enc []) := World.ownsRow_made _ #[] 0 (Nat.le_refl _) (by unfold maxLen; omega) rfl
    obtain ⟨v2, w2, hrun, hrow, hgrow, -⟩ := app_own O0 (some x) cap (he.below hal) (by simp; omega) (by simp)
    have hb2 : Below w.heap.size w w2 := hal.grown hgrow (by simp) (fun j e => by simp [Value.ownBlock] at e; omega)
    rw [List.nil_append] at hrow
    obtain ⟨va, vc, rfl⟩ := own_form hrow
    clear hgrow O0 hal
    go_enter Try.func70, Try.ntmps70
    go_wp2_with (at_builtin; refine Go.Lib.wpList_append_run _ rfl _ _ _ _ rfl _ _ rfl rfl _ _ hrun ?_)
    go_ret
    exact ⟨_, rfl, hrow, hb2⟩
theorem own_some {w : World} {B e sz n c : Nat} {a : Option Addr} {xs : List Value} (h : w.ownsRow B e sz (.slice a n c) n xs) (hn : n ≠ 0) : ∃ g, a = some ⟨g, 0, none⟩ := by
  rcases h.2 with ⟨_, h0⟩ | ⟨g, cap', cur, he, _⟩
  · exact absurd h0 hn
  · simp only [Value.slice.injEq] at he
    exact ⟨g, he.1⟩
theorem cA_get {qs : List Bool} {k : Nat} : qs.getD k false = cA qs k := rfl
theorem fA_get {fs : List Int} {k : Nat} : fs.getD k 0 = fA fs k := rfl
theorem encget {ys : List Int} {i : Nat} (h : i < ys.length) : (ys.map (Value.int .i64))[i]? = some (.int .i64 (ys.getD i 0)) := by simp [List.getD, h]
theorem encset (ys : List Int) (i : Nat) (x : Int) : (ys.map (Value.int .i64)).set i (.int .i64 x) = (ys.set i x).map (Value.int .i64) := by simp

set_option maxRecDepth 20000 in
set_option maxHeartbeats 6400000 in
theorem cPhI (a b : Option Addr) (c d : Nat) (fs : List Int) (qs : List Bool) (w : World) (hf : Ints w a fs) (hq : Bools w b qs) (lf : fs.length ≤ 1048576) :
    Calls Try.prog 30 #[.slice a fs.length c, .slice b qs.length d] w (AnsI w (phC fs qs)) := by
  have CS := cSect a b c d fs qs w hf lf
  cases hP : phB fs qs
  · rw [phC_no hP]
    rw [hP] at CS
    go_enter Try.func30, Try.ntmps30
    go_wp2_with fail
    refine CS.mono ?_
    rintro e w9 ⟨rfl, hw⟩
    subst w9
    go_wp2
    go_ret
    exact ⟨_, rfl, World.ownsRow_nil _ _ _ _, Below.refl _ _⟩
  rw [phC_yes hP]
  rw [hP] at CS
  obtain ⟨h40, -, hqn⟩ := (phB_iff fs qs).1 hP
  have CC := cClone a c fs w hf lf
  have hU := fun (ys : List Int) (h : Up fs qs 0 ys) => h.ext
  obtain ⟨m, hm⟩ : ∃ m, qs.length = m := ⟨_, rfl⟩
  have HM := hide hm
  have HN : Hid (m = fs.length - 1) := hide (hm.symm.trans hqn)
  rw [hm] at CS ⊢
  have hm39 : m ≤ 39 := by have := HN.out; omega
  have hC0 := Dn.zero fs qs
  clear hqn hm hP
  go_enter Try.func30, Try.ntmps30
  go_wp2_with fail
  refine CS.mono ?_
  rintro e w9 ⟨rfl, hw⟩
  subst w9
  clear CS
  go_wp2_with fail
  refine CC.mono ?_
  rintro e w1 ⟨v, rfl, O1, hb1⟩
  clear CC
  obtain ⟨va, vc, rfl⟩ := own_form O1
  have hbs : ∀ g, va = some ⟨g, 0, none⟩ → w.heap.size ≤ g := fun g hg => own_from O1 (Nat.le_refl _) g (by rw [hg]; rfl)
  have HBS := hide hbs
  obtain ⟨N, hN⟩ : ∃ N, fs.length = N := ⟨_, rfl⟩
  have HL := hide hN
  rw [hN] at O1 ⊢
  have hmN : Hid (m = N - 1) := hide (by have := HN.out; have := HL.out; omega)
  clear hN hbs HN
  go_wp2
  go_loopw [17] (fun i wr => ∃ (k : Nat) (ys : List Int), k ≤ m ∧ i = .int .i64 k ∧ wr.ownsRow w.heap.size 3 1 (.slice va N vc) N (ys.map (Value.int .i64)) ∧ Dn fs qs k ys ∧ Below w.heap.size w wr) (fun i _ => m - (intOf i).toNat)
  case atStart => exact ⟨0, fs, Nat.zero_le _, rfl, O1, hC0, hb1⟩
  case round =>
    obtain ⟨k, ys, hk, rfl, O, hD, hb⟩ := hrel
    clear O1 hb1 hC0
    by_cases hlt : k < m
    · have hkN : k + 1 < N := by have := hmN.out; omega
      obtain ⟨g, rfl⟩ := own_some O (by omega)
      have hg := HBS.out g rfl
      have hkq : k < qs.length := by have := HM.out; omega
      have hkf : k + 1 < fs.length := by have := HL.out; omega
      rcases hq with h | ⟨qb, qo, rfl, hqc⟩
      · simp [h] at hkq
      have p0 := ble hb (hqc k hkq)
      rw [cA_get] at p0
      cases hc : cA qs k
      · rw [hc] at p0
        have hD2 := hD.open hc
        clear hD hqc
        go_wp2
        go_roundw
        case rel => exact ⟨k + 1, ys, by omega, by go_num, O, hD2, hb⟩
        case measure => simp [intOf]; omega
      · rw [hc] at p0
        have hD2 := hD.shut hkf hc
        rcases hf with h | ⟨fb, fo, rfl, hfc⟩
        · simp [h] at hkf
        have p1 := hfc (k + 1) hkf
        have hfb : fb < w.heap.size := cell_lt p1
        replace p1 := ble hb p1
        rw [fA_get] at p1
        have hlen := hD.len
        have hky : k < ys.length := by omega
        have hNy : ys.length = N := by have := HL.out; omega
        have p2 := (O.cellAt k (by omega)).trans (encget hky)
        have p3 := (O.cellAt (k + 1) (by omega)).trans (encget (by omega : k + 1 < ys.length))
        have f3 := O.frozenAt (k + 1)
        obtain ⟨O2, -⟩ := O.stored (k + 1) (.int .i64 (jn (ys.getD k 0) (fA fs (k + 1))))
        rw [encset] at O2
        have HB2 := below_set (o := k + 1) (v := .int .i64 (jn (ys.getD k 0) (fA fs (k + 1)))) hg hb
        generalize ys.set (k + 1) (jn (ys.getD k 0) (fA fs (k + 1))) = ys2 at *
        generalize ys.getD k 0 = y0 at *
        generalize ys.getD (k + 1) 0 = y1 at *
        generalize fA fs (k + 1) = f1 at *
        have n1 : g ≠ fb := by omega
        have n2 : fb ≠ g := by omega
        have n3 : k + 1 ≠ k := by omega
        have n4 : k ≠ k + 1 := by omega
        have e1 : IntKind.i64.wrap ((k : Int) + 1) = (k : Int) + 1 := wrap_in _ (by omega) (by omega)
        have p4 := (World.cell?_setCell_other wr ⟨g, k + 1, none⟩ ⟨g, k, none⟩ (.int .i64 (jn y0 f1)) (by simp)).trans p2
        have i0 : k < N := by omega
        have i1 : (k : Int) < (N : Int) := by omega
        have i2 : (0 : Int) ≤ (k : Int) := by omega
        have i3 : (k : Int) + 1 < (N : Int) := by omega
        have i4 : (0 : Int) ≤ (k : Int) + 1 := by omega
        have i5 : ((k : Int) + 1).toNat = k + 1 := by omega
        clear hD hqc hfc O hky hlen hNy hc
        go_wp2_with fail
        go_region_held3 (fun w' => w'.cell? ⟨g, k, none⟩ = some (.int .i64 y0) ∧ w'.cell? ⟨fb, fo + (k + 1), none⟩ = some (.int .i64 f1)) (go_keep) (first | (go_at_call 71; refine (cJoin y0 f1 _).mono ?_; rintro e w9 ⟨rfl, hw⟩; subst w9))
        go_wp2
        go_roundw
        case rel => exact ⟨k + 1, ys2, by omega, by go_num, O2, hD2, HB2.drew⟩
        case measure => simp [intOf]; omega
    · obtain rfl : k = m := by omega
      have hU0 := hD.up (by have := HL.out; have := hmN.out; omega)
      have hO := O
      clear hD O
      go_wp2
      go_loopw [41] (fun i wr => ∃ (j : Nat) (ys : List Int), j ≤ k ∧ i = .int .i64 j ∧ wr.ownsRow w.heap.size 3 1 (.slice va N vc) N (ys.map (Value.int .i64)) ∧ Up fs qs (k - j) ys ∧ Below w.heap.size w wr) (fun i _ => k - (intOf i).toNat)
      case atStart => exact ⟨0, ys, Nat.zero_le _, rfl, hO, hU0, hb⟩
      case round =>
        clear hO hU0 hb
        obtain ⟨j, ys, hj, rfl, O, hD, hb⟩ := hrel
        by_cases hlt2 : j < k
        · obtain ⟨i, hi⟩ : ∃ i, i + j + 1 = k := ⟨k - 1 - j, by omega⟩
          have hiN : i + 1 < N := by have := hmN.out; omega
          obtain ⟨g, rfl⟩ := own_some O (by omega)
          have hg := HBS.out g rfl
          have hkq : i < qs.length := by have := HM.out; omega
          have hkf : i + 1 < fs.length := by have := HL.out; omega
          rcases hq with h | ⟨qb, qo, rfl, hqc⟩
          · simp [h] at hkq
          have p0 := ble hb (hqc i hkq)
          rw [cA_get] at p0
          rw [show k - j = i + 1 by omega] at hD
          have e1 : IntKind.i64.wrap ((k : Int) - 1) = (k : Int) - 1 := wrap_in _ (by omega) (by omega)
          have e2 : IntKind.i64.wrap ((k : Int) - 1 - (j : Int)) = (i : Int) := (wrap_in _ (by omega) (by omega)).trans (by omega)
          have hik : i < k := by omega
          have i0 : i < N := by omega
          have hkji : Hid (k - (j + 1) = i) := hide (by omega)
          cases hc : cA qs i
          · rw [hc] at p0
            have hD2 := hD.open hkf hc
            rw [← hkji.out] at hD2
            clear hD hqc hi
            go_wp2
            go_roundw
            case rel => exact ⟨j + 1, ys, by omega, by go_num, O, hD2, hb⟩
            case measure => simp [intOf]; omega
          · rw [hc] at p0
            have hD2 := hD.shut hkf hc
            rw [← hkji.out] at hD2
            have hlen := hD.len
            have hNy : ys.length = N := by have := HL.out; omega
            have p2 := (O.cellAt i (by omega)).trans (encget (by omega : i < ys.length))
            have p3 := (O.cellAt (i + 1) (by omega)).trans (encget (by omega : i + 1 < ys.length))
            have f2 := O.frozenAt i
            obtain ⟨O2, -⟩ := O.stored i (.int .i64 (ys.getD (i + 1) 0))
            rw [encset] at O2
            rw [hkji.out] at hD2
            have HB2 := below_set (o := i) (v := .int .i64 (ys.getD (i + 1) 0)) hg hb
            generalize ys.set i (ys.getD (i + 1) 0) = ys2 at *
            generalize ys.getD i 0 = y0 at *
            generalize ys.getD (i + 1) 0 = y1 at *
            have e3 : IntKind.i64.wrap ((i : Int) + 1) = (i : Int) + 1 := wrap_in _ (by omega) (by omega)
            clear hD hqc O hlen hNy hc hi
            go_wp2
            go_roundw
            case rel => exact ⟨j + 1, ys2, by omega, by go_num, O2, by rw [hkji.out]; exact hD2, HB2⟩
            case measure => simp [intOf]; omega
        · obtain rfl : j = k := by omega
          rw [Nat.sub_self] at hD
          have hE := hU ys hD
          have hlen := hD.len
          have hNy : ys.length = N := by have := HL.out; omega
          have hR : wr.ownsRow w.heap.size 3 1 (.slice va N vc) ((List.range fs.length).map (ph (fA fs) (cA qs) fs.length)).length (((List.range fs.length).map (ph (fA fs) (cA qs) fs.length)).map (Value.int .i64)) := by rw [← hE, hNy]; exact O
          clear hD hq hf hU hlen hE hNy O
          go_wp2
          go_ret
          exact ⟨_, rfl, hR, hb⟩
end Go.Proofs.Ytapnidhokpkmdaa
