/- The top speed that is enough. -/
import Derived.Test.YtnhcmjfmfgoakaaK
namespace Go.Proofs.Ytnhcmjfmfgoakaa
open Go.RowKit

/-- The first place at which f holds, counted from one; 0 where there is none below n. -/
def easeF (f : Nat → Bool) (n : Nat) : Int := match (List.range n).find? f with
  | some i => (i : Int) + 1
  | none => 0
def easeB (u d x : Int) (zs : List Int) (k : Nat) : Bool := decide (runT (sqs ⟨u, d, (k : Int) + 1⟩ zs) ≤ x)
theorem ease_test (u d x : Int) (zs : List Int) (k : Nat) : runT (sqs ⟨u, d, (k : Int) + 1⟩ zs) ≤ x ↔ easeB u d x zs k = true := by simp [easeB]
def easeT (m : MotorV) (zs : List Int) (x : Int) : Int := if motorB m && courseB zs && inB x 0 10000000 then easeF (easeB m.u m.d x zs) m.t.toNat else 0
theorem easeT_in {m : MotorV} {zs : List Int} {x : Int} (h1 : motorB m = true) (h2 : courseB zs = true) (h3 : inB x 0 10000000 = true) : easeT m zs x = easeF (easeB m.u m.d x zs) m.t.toNat := by simp [easeT, h1, h2, h3]
theorem ease_miss {f : Nat → Bool} {n : Nat} (h : ∀ j, j < n → f j = false) : easeF f n = 0 := by
  have : (List.range n).find? f = none := by
    rw [List.find?_eq_none]
    intro i hi
    simp [h i (by simpa using hi)]
  simp [easeF, this]
theorem ease_hit {f : Nat → Bool} {k n : Nat} (h : ∀ j, j < k → f j = false) (hk : k < n) (hf : f k = true) : easeF f n = (k : Int) + 1 := by
  have e : List.range n = List.range k ++ (List.range' k (n - k)) := by
    have h0 := List.range'_append_1 (s := 0) (m := k) (n := n - k)
    rw [Nat.zero_add] at h0
    rw [List.range_eq_range', List.range_eq_range', h0]
    congr 1; omega
  have e2 : List.range' k (n - k) = k :: List.range' (k + 1) (n - k - 1) := by
    obtain ⟨q, hq⟩ : ∃ q, n - k = q + 1 := ⟨n - k - 1, by omega⟩
    rw [hq, List.range'_succ]; simp
  have : (List.range n).find? f = some k := by
    rw [e, e2, List.find?_append]
    have h0 : (List.range k).find? f = none := by
      rw [List.find?_eq_none]
      intro i hi
      simp [h i (by simpa using hi)]
    rw [h0]
    simp [hf]
  simp [easeF, this]

set_option maxRecDepth 20000 in
set_option maxHeartbeats 3200000 in
theorem c39 (a : Option Addr) (cap : Nat) (m : MotorV) (zs : List Int) (x : Int) (w : World) (hz : Ints w a zs) (hl : zs.length ≤ 1048576) :
    Calls Try.prog 39 #[m.val, .slice a zs.length cap, .int .i64 x] w fun e w' => e = .returned (.int .i64 (easeT m zs x)) ∧ Below w.heap.size w w' := by
  cases hm : motorB m
  · have E : Hid (easeT m zs x = 0) := by show _ = _; simp [easeT, hm]
    obtain ⟨u, d, t⟩ := m
    unfold MotorV.val
    go_enter Try.func39, Try.ntmps39
    go_wp2_with fail
    refine (c26 ⟨u, d, t⟩ _).mono ?_
    rintro e w1 ⟨rfl, hb⟩
    rw [hm]
    have HB := btrans (balloc _ _) hb
    have X := Bx3.mk hb
    clear hb
    clear X
    go_wp2
    go_ret
    exact ⟨ret_int E.out.symm, HB⟩
  cases hg : courseB zs
  · have E : Hid (easeT m zs x = 0) := by show _ = _; simp [easeT, hg]
    obtain ⟨u, d, t⟩ := m
    unfold MotorV.val
    go_enter Try.func39, Try.ntmps39
    go_wp2_with fail
    refine (c26 ⟨u, d, t⟩ _).mono ?_
    rintro e w1 ⟨rfl, hb⟩
    rw [hm]
    have HB := btrans (balloc _ _) hb
    have X := Bx3.mk hb
    clear hb
    go_wp2_with fail
    refine (c51 a cap zs _ (hz.below HB) hl).mono ?_
    rintro e w2 ⟨rfl, hw⟩
    subst hw
    rw [hg]
    clear X
    go_wp2
    go_ret
    exact ⟨ret_int E.out.symm, HB⟩
  cases hx : inB x 0 10000000
  · have E : Hid (easeT m zs x = 0) := by show _ = _; simp [easeT, hx]
    have hx := hide hx
    obtain ⟨u, d, t⟩ := m
    unfold MotorV.val
    go_enter Try.func39, Try.ntmps39
    go_wp2_with fail
    refine (c26 ⟨u, d, t⟩ _).mono ?_
    rintro e w1 ⟨rfl, hb⟩
    rw [hm]
    have HB := btrans (balloc _ _) hb
    have X := Bx3.mk hb
    clear hb
    go_wp2_with fail
    refine (c51 a cap zs _ (hz.below HB) hl).mono ?_
    rintro e w2 ⟨rfl, hw⟩
    subst hw
    rw [hg]
    go_wp2_with fail
    refine (c54 _ _ _ _).mono ?_
    rintro e w2 ⟨rfl, hw⟩
    subst hw
    rw [hx.out]
    clear X
    go_wp2
    go_ret
    exact ⟨ret_int E.out.symm, HB⟩
  have E := hide (easeT_in hm hg hx)
  replace hx := hide hx
  obtain ⟨_, _, t0, t1⟩ := motorB_parts hm
  have C := fun (k : Nat) (w' : World) (hz' : Ints w' a zs) => c36 a cap ⟨m.u, m.d, (k : Int) + 1⟩ zs w' hz' hl
  obtain ⟨u, d, t⟩ := m
  unfold MotorV.val at *
  have hT := fun k => hide (ease_test u d x zs k)
  have hrun := fun k : Nat => runT_in _ (sqs_len ⟨u, d, (k : Int) + 1⟩ zs)
  generalize easeB u d x zs = EB at *
  replace t0 : 1 ≤ t := t0
  replace t1 : t ≤ 90 := t1
  obtain ⟨T, rfl⟩ : ∃ T : Nat, t = (T : Int) := ⟨t.toNat, by omega⟩
  replace E : Hid (easeT ⟨u, d, T⟩ zs x = easeF EB T) := by show _ = _; rw [E.out]; simp
  have hhit := hide (fun k => ease_hit (f := EB) (k := k) (n := T))
  have hmiss := hide (ease_miss (f := EB) (n := T))
  have C := hide C
  have hrun := hide hrun
  go_enter Try.func39, Try.ntmps39
  go_wp2_with fail
  refine (c26 ⟨u, d, (T : Int)⟩ _).mono ?_
  rintro e w1 ⟨rfl, hb⟩
  rw [hm]
  have HB := btrans (balloc _ _) hb
  have X := Bx3.mk hb
  clear hb
  go_wp2_with fail
  refine (c51 a cap zs _ (hz.below HB) hl).mono ?_
  rintro e w2 ⟨rfl, hw⟩
  subst hw
  rw [hg]
  go_wp2_with fail
  refine (c54 _ _ _ _).mono ?_
  rintro e w2 ⟨rfl, hw⟩
  subst hw
  rw [hx.out]
  go_wp2_with fail
  go_loopw [7] (fun i wr => ∃ k : Nat, k ≤ T ∧ i = .int .i64 ((k : Int) + 1) ∧ Hid (∀ j, j < k → EB j = false) ∧ Bx3 wr w.heap.size (.int .i64 u) (.int .i64 d) (.int .i64 T) ∧ Below w.heap.size w wr) (fun i _ => T + 1 - (intOf i).toNat)
  case atStart => exact ⟨0, by omega, rfl, fun j hj => by omega, X, HB⟩
  case round =>
    clear X HB
    obtain ⟨k, hk, rfl, hall, X, HB⟩ := hrel
    obtain ⟨b0, b1, b2⟩ := id X
    by_cases hlt : k < T
    · have Ck := C.out k wr (hz.below HB)
      have hTk := hT k
      have hr := hrun.out k
      clear C hT hrun
      replace Ck : Calls Try.prog 36 #[.agg #[.int .i64 u, .int .i64 d, .int .i64 ((k : Int) + 1)], .slice a zs.length cap] wr fun e w' => e = .returned (.int .i64 (runT (sqs ⟨u, d, (k : Int) + 1⟩ zs))) ∧ Below wr.heap.size wr w' := Ck
      generalize runT (sqs ⟨u, d, (k : Int) + 1⟩ zs) = RT at *
      have hlt' : (k : Int) + 1 ≤ (T : Int) := by omega
      by_cases hc : RT ≤ x
      · have hE := hide (hhit.out k hall.out hlt (hTk.out.1 hc))
        clear hall hhit hmiss hTk
        go_wp2_with fail
        refine Ck.mono ?_
        rintro e w4 ⟨rfl, hb⟩
        have HB4 := btrans HB hb
        clear Ck HB hb X b0 b1 b2
        go_wp2
        go_ret
        exact ⟨ret_int (by rw [E.out, hE.out]), HB4⟩
      · have hf : EB k = false := by
          cases h : EB k
          · rfl
          · exact absurd (hTk.out.2 h) hc
        have hall' : Hid (∀ j, j < k + 1 → EB j = false) := by
          intro j hj
          by_cases e : j = k
          · subst e; exact hf
          · exact hall.out j (by omega)
        clear hall hhit hmiss hTk hf
        go_wp2_with fail
        refine Ck.mono ?_
        rintro e w4 ⟨rfl, hb⟩
        have HB4 := btrans HB hb
        have X4 := X.below hb
        clear Ck HB hb X b0 b1 b2
        go_wp2
        go_roundw
        case rel => exact ⟨k + 1, by omega, by go_num, hall', X4, HB4⟩
        case measure => simp [intOf]; omega
    · obtain rfl : k = T := by omega
      have hE := hide (hmiss.out hall.out)
      clear hall hhit hmiss C hT hrun
      go_wp2
      go_ret
      exact ⟨ret_int (by rw [E.out, hE.out]), HB⟩

set_option maxRecDepth 20000 in
set_option maxHeartbeats 3200000 in
theorem c24 (a : Option Addr) (cap : Nat) (m : MotorV) (zs : List Int) (x : Int) (w : World) (hz : Ints w a zs) (hl : zs.length ≤ 1048576) :
    Calls Try.prog 24 #[m.val, .slice a zs.length cap, .int .i64 x] w fun e w' => e = .returned (.int .i64 (easeT m zs x)) ∧ Below w.heap.size w w' := by
  cases hm : motorB m
  · have E : Hid (easeT m zs x = 0) := by show _ = _; simp [easeT, hm]
    obtain ⟨u, d, t⟩ := m
    unfold MotorV.val
    go_enter Try.func24, Try.ntmps24
    go_wp2_with fail
    refine (c28 ⟨u, d, t⟩ _).mono ?_
    rintro e w1 ⟨rfl, hb⟩
    rw [hm]
    have HB := btrans (balloc _ _) hb
    have X := Bx3.mk hb
    clear hb
    clear X
    go_wp2
    go_ret
    exact ⟨ret_int E.out.symm, HB⟩
  cases hg : courseB zs
  · have E : Hid (easeT m zs x = 0) := by show _ = _; simp [easeT, hg]
    obtain ⟨u, d, t⟩ := m
    unfold MotorV.val
    go_enter Try.func24, Try.ntmps24
    go_wp2_with fail
    refine (c28 ⟨u, d, t⟩ _).mono ?_
    rintro e w1 ⟨rfl, hb⟩
    rw [hm]
    have HB := btrans (balloc _ _) hb
    have X := Bx3.mk hb
    clear hb
    go_wp2_with fail
    refine (c44 a cap zs _ (hz.below HB) hl).mono ?_
    rintro e w2 ⟨rfl, hw⟩
    subst hw
    rw [hg]
    clear X
    go_wp2
    go_ret
    exact ⟨ret_int E.out.symm, HB⟩
  cases hx : inB x 0 10000000
  · have E : Hid (easeT m zs x = 0) := by show _ = _; simp [easeT, hx]
    have hx := hide hx
    obtain ⟨u, d, t⟩ := m
    unfold MotorV.val
    go_enter Try.func24, Try.ntmps24
    go_wp2_with fail
    refine (c28 ⟨u, d, t⟩ _).mono ?_
    rintro e w1 ⟨rfl, hb⟩
    rw [hm]
    have HB := btrans (balloc _ _) hb
    have X := Bx3.mk hb
    clear hb
    go_wp2_with fail
    refine (c44 a cap zs _ (hz.below HB) hl).mono ?_
    rintro e w2 ⟨rfl, hw⟩
    subst hw
    rw [hg]
    go_wp2_with fail
    refine (c53 _ _ _ _).mono ?_
    rintro e w2 ⟨rfl, hw⟩
    subst hw
    rw [hx.out]
    clear X
    go_wp2
    go_ret
    exact ⟨ret_int E.out.symm, HB⟩
  have E := hide (easeT_in hm hg hx)
  replace hx := hide hx
  obtain ⟨_, _, t0, t1⟩ := motorB_parts hm
  have C := fun (k : Nat) (w' : World) (hz' : Ints w' a zs) => c20 a cap ⟨m.u, m.d, (k : Int) + 1⟩ zs w' hz' hl
  obtain ⟨u, d, t⟩ := m
  unfold MotorV.val at *
  have hT := fun k => hide (ease_test u d x zs k)
  have hrun := fun k : Nat => runT_in _ (sqs_len ⟨u, d, (k : Int) + 1⟩ zs)
  generalize easeB u d x zs = EB at *
  replace t0 : 1 ≤ t := t0
  replace t1 : t ≤ 90 := t1
  obtain ⟨T, rfl⟩ : ∃ T : Nat, t = (T : Int) := ⟨t.toNat, by omega⟩
  replace E : Hid (easeT ⟨u, d, T⟩ zs x = easeF EB T) := by show _ = _; rw [E.out]; simp
  have hhit := hide (fun k => ease_hit (f := EB) (k := k) (n := T))
  have hmiss := hide (ease_miss (f := EB) (n := T))
  have C := hide C
  have hrun := hide hrun
  go_enter Try.func24, Try.ntmps24
  go_wp2_with fail
  refine (c28 ⟨u, d, (T : Int)⟩ _).mono ?_
  rintro e w1 ⟨rfl, hb⟩
  rw [hm]
  have HB := btrans (balloc _ _) hb
  have X := Bx3.mk hb
  clear hb
  go_wp2_with fail
  refine (c44 a cap zs _ (hz.below HB) hl).mono ?_
  rintro e w2 ⟨rfl, hw⟩
  subst hw
  rw [hg]
  go_wp2_with fail
  refine (c53 _ _ _ _).mono ?_
  rintro e w2 ⟨rfl, hw⟩
  subst hw
  rw [hx.out]
  go_wp2_with fail
  go_loopw [7] (fun i wr => ∃ k : Nat, k ≤ T ∧ i = .int .i64 ((k : Int) + 1) ∧ Hid (∀ j, j < k → EB j = false) ∧ Bx3 wr w.heap.size (.int .i64 u) (.int .i64 d) (.int .i64 T) ∧ Below w.heap.size w wr) (fun i _ => T + 1 - (intOf i).toNat)
  case atStart => exact ⟨0, by omega, rfl, fun j hj => by omega, X, HB⟩
  case round =>
    clear X HB
    obtain ⟨k, hk, rfl, hall, X, HB⟩ := hrel
    obtain ⟨b0, b1, b2⟩ := id X
    by_cases hlt : k < T
    · have Ck := C.out k wr (hz.below HB)
      have hTk := hT k
      have hr := hrun.out k
      clear C hT hrun
      replace Ck : Calls Try.prog 20 #[.agg #[.int .i64 u, .int .i64 d, .int .i64 ((k : Int) + 1)], .slice a zs.length cap] wr fun e w' => e = .returned (.int .i64 (runT (sqs ⟨u, d, (k : Int) + 1⟩ zs))) ∧ Below wr.heap.size wr w' := Ck
      generalize runT (sqs ⟨u, d, (k : Int) + 1⟩ zs) = RT at *
      have hlt' : (k : Int) + 1 ≤ (T : Int) := by omega
      by_cases hc : RT ≤ x
      · have hE := hide (hhit.out k hall.out hlt (hTk.out.1 hc))
        clear hall hhit hmiss hTk
        go_wp2_with fail
        refine Ck.mono ?_
        rintro e w4 ⟨rfl, hb⟩
        have HB4 := btrans HB hb
        clear Ck HB hb X b0 b1 b2
        go_wp2
        go_ret
        exact ⟨ret_int (by rw [E.out, hE.out]), HB4⟩
      · have hf : EB k = false := by
          cases h : EB k
          · rfl
          · exact absurd (hTk.out.2 h) hc
        have hall' : Hid (∀ j, j < k + 1 → EB j = false) := by
          intro j hj
          by_cases e : j = k
          · subst e; exact hf
          · exact hall.out j (by omega)
        clear hall hhit hmiss hTk hf
        go_wp2_with fail
        refine Ck.mono ?_
        rintro e w4 ⟨rfl, hb⟩
        have HB4 := btrans HB hb
        have X4 := X.below hb
        clear Ck HB hb X b0 b1 b2
        go_wp2
        go_roundw
        case rel => exact ⟨k + 1, by omega, by go_num, hall', X4, HB4⟩
        case measure => simp [intOf]; omega
    · obtain rfl : k = T := by omega
      have hE := hide (hmiss.out hall.out)
      clear hall hhit hmiss C hT hrun
      go_wp2
      go_ret
      exact ⟨ret_int (by rw [E.out, hE.out]), HB⟩
end Go.Proofs.Ytnhcmjfmfgoakaa
