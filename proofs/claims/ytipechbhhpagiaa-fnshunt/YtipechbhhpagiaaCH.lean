/- HumpPass and HumpSort of the program. -/
import Derived.Test.YtipechbhhpagiaaCO
namespace Go.Proofs.Ytipechbhhpagiaa
open Go.RowKit
def okP (zs : List Int) (b d : Int) : Bool := trainB zs && (inB b 2 10 && inB d 0 13)
def okS (zs : List Int) (b : Int) : Bool := trainB zs && inB b 2 10
/-- What HumpPass answers. -/
structure PassR (zs : List Int) (b d : Int) (out : List Int) : Prop where
  bad : okP zs b d = false → out = []
  good : okP zs b d = true → out = humpL b.toNat (pw b.toNat d.toNat) zs
theorem PassR.uniq {zs : List Int} {b d : Int} {o o' : List Int} (h : PassR zs b d o) (g : PassR zs b d o') : o = o' := by
  cases hq : okP zs b d
  · rw [h.bad hq, g.bad hq]
  · rw [h.good hq, g.good hq]
theorem okP_parts {zs : List Int} {b d : Int} (h : okP zs b d = true) : trainB zs = true ∧ (2 ≤ b ∧ b ≤ 10) ∧ 0 ≤ d ∧ d ≤ 13 := by
  simp only [okP, Bool.and_eq_true] at h
  exact ⟨h.1, inB_true h.2.1, inB_true h.2.2⟩
theorem okS_parts {zs : List Int} {b : Int} (h : okS zs b = true) : trainB zs = true ∧ 2 ≤ b ∧ b ≤ 10 := by
  simp only [okS, Bool.and_eq_true] at h
  exact ⟨h.1, inB_true h.2⟩
theorem PassR.len {zs : List Int} {b d : Int} {o : List Int} (h : PassR zs b d o) : o.length ≤ 40 := by
  cases hq : okP zs b d
  · rw [h.bad hq]; simp
  · obtain ⟨h1, h2, h3⟩ := okP_parts hq
    rw [h.good hq, hump_len (by omega)]; exact trainB_len h1
theorem PassR.no {zs : List Int} {b d : Int} (h : okP zs b d = false) : PassR zs b d [] := ⟨fun _ => rfl, fun g => by rw [h] at g; cases g⟩
/-- What HumpSort answers. -/
structure SortR (zs : List Int) (b : Int) (out : List Int) (n : Int) : Prop where
  bad : okS zs b = false → out = [] ∧ n = -1
  good : okS zs b = true → ∃ k : Nat, n = k ∧ IsDg b.toNat (mxL zs) k ∧ out = passL b.toNat zs k
theorem SortR.uniq {zs : List Int} {b : Int} {o o' : List Int} {n n' : Int} (h : SortR zs b o n) (g : SortR zs b o' n') : o = o' ∧ n = n' := by
  cases hq : okS zs b
  · obtain ⟨h1, h2⟩ := h.bad hq
    obtain ⟨g1, g2⟩ := g.bad hq
    exact ⟨h1.trans g1.symm, h2.trans g2.symm⟩
  · obtain ⟨k, h1, h2, h3⟩ := h.good hq
    obtain ⟨k', g1, g2, g3⟩ := g.good hq
    obtain rfl := h2.unique g2
    exact ⟨h3.trans g3.symm, h1.trans g1.symm⟩
theorem SortR.len {zs : List Int} {b : Int} {o : List Int} {n : Int} (h : SortR zs b o n) : o.length ≤ 40 := by
  cases hq : okS zs b
  · rw [(h.bad hq).1]; simp
  · obtain ⟨k, h1, h2, h3⟩ := h.good hq
    obtain ⟨p1, p2⟩ := okS_parts hq
    rw [h3, pass_len (by omega)]; exact trainB_len p1
theorem SortR.no {zs : List Int} {b : Int} (h : okS zs b = false) : SortR zs b [] (-1) := ⟨fun _ => ⟨rfl, rfl⟩, fun g => by rw [h] at g; cases g⟩
def AnsL (w : World) (R : List Int → Prop) (e : Ending) (w' : World) : Prop := ∃ (v : Value) (out : List Int), e = .returned v ∧ R out ∧ w'.ownsRow w.heap.size 3 1 v out.length (enc out) ∧ Below w.heap.size w w'
def AnsLN (w : World) (R : List Int → Int → Prop) (e : Ending) (w' : World) : Prop := ∃ (v : Value) (out : List Int) (n : Int), e = .returned (.tuple #[v, .int .i64 n]) ∧ R out n ∧ w'.ownsRow w.heap.size 3 1 v out.length (enc out) ∧ Below w.heap.size w w'
theorem ansL_no {w : World} {R : List Int → Prop} (h : R []) : AnsL w R (.returned (.slice none 0 0)) w := ⟨_, [], rfl, h, World.ownsRow_nil _ _ _ _, Below.refl _ _⟩
theorem ansLN_no {w : World} {R : List Int → Int → Prop} (h : R [] (-1)) : AnsLN w R (.returned (.tuple #[.slice none 0 0, .int .i64 (-1)])) w := ⟨_, [], _, rfl, h, World.ownsRow_nil _ _ _ _, Below.refl _ _⟩
theorem div_pw (x : Int) (b k : Nat) : x / pw b k / (b : Int) = x / pw b (k + 1) := by
  rw [pw_succ, Int.ediv_ediv_of_nonneg (show 0 ≤ pw b k from Int.natCast_nonneg _)]

set_option maxRecDepth 20000 in
set_option maxHeartbeats 3200000 in
theorem cPassI (a : Option Addr) (cap : Nat) (zs : List Int) (b d : Int) (w : World) (hz : Ints w a zs) (hl : zs.length ≤ 1048576) :
    Calls Try.prog 25 #[.slice a zs.length cap, .int .i64 b, .int .i64 d] w (AnsL w (PassR zs b d)) := by
  cases hT : trainB zs
  · have hR := hide (PassR.no (show okP zs b d = false by simp [okP, hT]))
    go_enter Try.func25, Try.ntmps25
    go_wp2_with (first | (go_at_call 61; refine (cTrainI a cap zs _ hz hl).mono ?_; rintro e w9 ⟨rfl, hw9⟩; subst w9) | (go_at_call 62; refine (cBase _ _).mono ?_; rintro e w9 ⟨rfl, hw9⟩; subst w9) | (go_at_call 54; refine (cWithin _ _ _ _).mono ?_; rintro e w9 ⟨rfl, hw9⟩; subst w9))
    go_ret
    exact ansL_no hR.out
  cases hB : inB b 2 10
  · have hR := hide (PassR.no (show okP zs b d = false by simp [okP, hT, hB]))
    go_enter Try.func25, Try.ntmps25
    go_wp2_with (first | (go_at_call 61; refine (cTrainI a cap zs _ hz hl).mono ?_; rintro e w9 ⟨rfl, hw9⟩; subst w9) | (go_at_call 62; refine (cBase _ _).mono ?_; rintro e w9 ⟨rfl, hw9⟩; subst w9) | (go_at_call 54; refine (cWithin _ _ _ _).mono ?_; rintro e w9 ⟨rfl, hw9⟩; subst w9))
    go_ret
    exact ansL_no hR.out
  cases hD : inB d 0 13
  · have hR := hide (PassR.no (show okP zs b d = false by simp [okP, hT, hB, hD]))
    go_enter Try.func25, Try.ntmps25
    go_wp2_with (first | (go_at_call 61; refine (cTrainI a cap zs _ hz hl).mono ?_; rintro e w9 ⟨rfl, hw9⟩; subst w9) | (go_at_call 62; refine (cBase _ _).mono ?_; rintro e w9 ⟨rfl, hw9⟩; subst w9) | (go_at_call 54; refine (cWithin _ _ _ _).mono ?_; rintro e w9 ⟨rfl, hw9⟩; subst w9))
    go_ret
    exact ansL_no hR.out
  have hok := hide (show okP zs b d = true by simp [okP, hT, hB, hD])
  have h40 := trainB_len hT
  obtain ⟨hb2, hb10⟩ := inB_true hB
  obtain ⟨hd0, hd13⟩ := inB_true hD
  obtain ⟨bn, rfl⟩ : ∃ bn : Nat, b = bn := ⟨b.toNat, by omega⟩
  obtain ⟨dn, rfl⟩ : ∃ dn : Nat, d = dn := ⟨d.toNat, by omega⟩
  have hdn : dn ≤ 13 := by omega
  have hbn : 2 ≤ bn := by omega
  have hbn10 : bn ≤ 10 := by omega
  have CO := fun (wt : Int) h1 h2 => cOver a cap bn wt zs w hz hT hbn hbn10 h1 h2
  have hR : Hid (PassR zs bn dn (humpL bn (pw bn dn) zs)) := hide ⟨fun g => by (rw [hok.out] at g; cases g), fun _ => rfl⟩
  go_enter Try.func25, Try.ntmps25
  go_wp2_with (first | (go_at_call 61; refine (cTrainI a cap zs _ hz hl).mono ?_; rintro e w9 ⟨rfl, hw9⟩; subst w9) | (go_at_call 62; refine (cBase _ _).mono ?_; rintro e w9 ⟨rfl, hw9⟩; subst w9) | (go_at_call 54; refine (cWithin _ _ _ _).mono ?_; rintro e w9 ⟨rfl, hw9⟩; subst w9))
  go_loop [7, 22] (fun wt i => ∃ j : Nat, j ≤ dn ∧ i = .int .i64 j ∧ wt = .int .i64 (pw bn j)) (fun _ i => dn - (intOf i).toNat)
  case atStart => exact ⟨0, Nat.zero_le _, rfl, rfl⟩
  case round =>
    obtain ⟨j, hj, rfl, rfl⟩ := hrel
    by_cases hlt : j < dn
    · have e1 := pw_succ bn j
      have b1 := pw_le (b := bn) (d := j + 1) hbn10 (by omega)
      have b0 := pw_pos (b := bn) (d := j + 1) (by omega)
      have v1 : IntKind.i64.wrap (pw bn j * (bn : Int)) = pw bn j * (bn : Int) := by rw [← e1]; exact wrap_in _ (by omega) (by omega)
      clear CO
      go_wp2
      go_round
      case rel => exact ⟨j + 1, by omega, by go_num, by rw [e1]⟩
      case measure => simp [intOf]; omega
    · obtain rfl : j = dn := by omega
      have C := CO (pw bn j) (by have := pw_pos (b := bn) (d := j) (by omega); omega) (pw_le hbn10 (by omega))
      clear CO
      generalize pw bn j = wt at *
      go_wp2_with fail
      refine C.mono ?_
      rintro e w1 ⟨v, rfl, hO, hb⟩
      obtain ⟨va, vc, rfl⟩ := own_form hO
      go_wp2
      go_ret
      exact ⟨_, _, rfl, hR.out, hO, hb⟩

theorem infoI2 : ∃ i0, Try.prog.info? 3 = some i0 ∧ i0.zero = some (.int .i64 0) ∧ i0.size = 1 ∧ i0.bytes = 8 := info_parts infoInts
set_option maxRecDepth 20000 in
set_option maxHeartbeats 800000 in
theorem cClone (a : Option Addr) (cap : Nat) (l : List Int) (w : World) (he : Ints w a l) (hl : l.length ≤ 1048576) :
    Calls Try.prog 63 #[.slice a l.length cap] w fun e w' => ∃ v, e = .returned v ∧ w'.ownsRow w.heap.size 3 1 v l.length (enc l) ∧ Below w.heap.size w w' := by
  cases a with
  | none =>
    have h0 : l = [] := by
      rcases he with h | ⟨b, off, h, _⟩
      · exact h
      · cases h
    subst h0
    have hq : ∀ w, (binOp .eql 24 (.slice none 0 cap) (.slice none 0 0)).run Try.prog w = .ok (.bool true) w := fun w => Go.Lib.run_eql_slice_nil w _ _ none 0 cap 0 0 Try.underlying24
    go_enter Try.func63, Try.ntmps63
    go_wp2
    go_ret
    exact ⟨_, rfl, World.ownsRow_nil _ _ _ _, Below.refl _ _⟩
  | some x =>
    have hq : ∀ w, (binOp .eql 24 (.slice (some x) l.length cap) (.slice none 0 0)).run Try.prog w = .ok (.bool false) w := fun w => Go.Lib.run_eql_slice_nil w _ _ (some x) l.length cap 0 0 Try.underlying24
    have hal := balloc w (.cells #[] 3)
    have O0 : (w.alloc (.cells #[] 3)).ownsRow w.heap.size 3 1 (.slice (some ⟨w.heap.size, 0, none⟩) 0 0) ([] : List Int).length (enc []) := World.ownsRow_made _ #[] 0 (Nat.le_refl _) (by unfold maxLen; omega) rfl
    obtain ⟨v2, w2, hrun, hrow, hgrow, -⟩ := app_own O0 (some x) cap (he.below hal) (by simp; omega) (by simp)
    have hb2 : Below w.heap.size w w2 := hal.grown hgrow (by simp) (fun j e => by simp [Value.ownBlock] at e; omega)
    rw [List.nil_append] at hrow
    obtain ⟨va, vc, rfl⟩ := own_form hrow
    clear hgrow O0 hal
    go_enter Try.func63, Try.ntmps63
    go_wp2_with (at_builtin; refine Go.Lib.wpList_append_run _ rfl _ _ _ _ rfl _ _ rfl rfl _ _ hrun ?_)
    go_ret
    exact ⟨_, rfl, hrow, hb2⟩

set_option maxRecDepth 20000 in
set_option maxHeartbeats 3200000 in
theorem cSortI (a : Option Addr) (cap : Nat) (zs : List Int) (b : Int) (w : World) (hz : Ints w a zs) (hl : zs.length ≤ 1048576) :
    Calls Try.prog 23 #[.slice a zs.length cap, .int .i64 b] w (AnsLN w (SortR zs b)) := by
  cases hT : trainB zs
  · have hR := hide (SortR.no (show okS zs b = false by simp [okS, hT]))
    go_enter Try.func23, Try.ntmps23
    go_wp2_with (first | (go_at_call 61; refine (cTrainI a cap zs _ hz hl).mono ?_; rintro e w9 ⟨rfl, hw9⟩; subst w9) | (go_at_call 62; refine (cBase _ _).mono ?_; rintro e w9 ⟨rfl, hw9⟩; subst w9) | (go_at_call 54; refine (cWithin _ _ _ _).mono ?_; rintro e w9 ⟨rfl, hw9⟩; subst w9))
    go_ret2
    exact ansLN_no hR.out
  cases hB : inB b 2 10
  · have hR := hide (SortR.no (show okS zs b = false by simp [okS, hT, hB]))
    go_enter Try.func23, Try.ntmps23
    go_wp2_with (first | (go_at_call 61; refine (cTrainI a cap zs _ hz hl).mono ?_; rintro e w9 ⟨rfl, hw9⟩; subst w9) | (go_at_call 62; refine (cBase _ _).mono ?_; rintro e w9 ⟨rfl, hw9⟩; subst w9) | (go_at_call 54; refine (cWithin _ _ _ _).mono ?_; rintro e w9 ⟨rfl, hw9⟩; subst w9))
    go_ret2
    exact ansLN_no hR.out
  have hok := hide (show okS zs b = true by simp [okS, hT, hB])
  have h40 := trainB_len hT
  obtain ⟨hb2, hb10⟩ := inB_true hB
  obtain ⟨bn, rfl⟩ : ∃ bn : Nat, b = bn := ⟨b.toNat, by omega⟩
  have hbn : 2 ≤ bn := by omega
  have hbn10 : bn ≤ 10 := by omega
  have CL := cClone a cap zs w hz hl
  go_enter Try.func23, Try.ntmps23
  go_wp2_with (first | (go_at_call 61; refine (cTrainI a cap zs _ hz hl).mono ?_; rintro e w9 ⟨rfl, hw9⟩; subst w9) | (go_at_call 62; refine (cBase _ _).mono ?_; rintro e w9 ⟨rfl, hw9⟩; subst w9) | (go_at_call 54; refine (cWithin _ _ _ _).mono ?_; rintro e w9 ⟨rfl, hw9⟩; subst w9))
  go_loop [6, 8, 22] (fun m _ i => ∃ j : Nat, j ≤ zs.length ∧ i = .int .i64 j ∧ m = .int .i64 (mxL (zs.take j))) (fun _ _ i => zs.length - (intOf i).toNat)
  case atStart => exact ⟨0, Nat.zero_le _, rfl, rfl⟩
  case round =>
    obtain ⟨j, hj, rfl, rfl⟩ := hrel
    by_cases hlt : j < zs.length
    · rcases hz with h | ⟨bb, off, rfl, hc⟩
      · simp [h] at hlt
      have q0 := hc j hlt
      have e0 : zs.getD j 0 = zs[j] := by simp [List.getD, hlt]
      rw [e0] at q0
      have hst : mxL (zs.take (j + 1)) = if mxL (zs.take j) < zs[j] then zs[j] else mxL (zs.take j) := by rw [List.take_succ_eq_append_getElem hlt, mx_snoc]
      replace hst := hide hst
      generalize zs[j] = x at *
      generalize mxL (zs.take j) = m at *
      clear hc e0 CL
      go_wp2
      go_round
      case rel => exact ⟨j + 1, by omega, by go_num, by rw [hst.out]⟩
      case measure => simp [intOf]; omega
    · obtain rfl : j = zs.length := by omega
      rw [List.take_length]
      have hM9 := mx_le hT
      have hM0 := mx_nonneg zs
      generalize hM : mxL zs = M at *
      replace hM := hide hM
      go_wp2_with fail
      refine CL.mono ?_
      rintro e w1 ⟨v0, rfl, hO0, hb0⟩
      clear CL
      go_wp2
      go_loopw [9, 10, 11] (fun v p wt wr => ∃ k : Nat, k ≤ 14 ∧ p = .int .i64 k ∧ wt = .int .i64 (pw bn k) ∧ wr.ownsRow w.heap.size 3 1 v (passL bn zs k).length (enc (passL bn zs k)) ∧ Below w.heap.size w wr ∧ Hid (∀ j, j < k → pw bn j ≤ M)) (fun _ p _ _ => 14 - (intOf p).toNat)
      case atStart => exact ⟨0, by omega, rfl, rfl, hO0, hb0, hide (fun j hj => by omega)⟩
      case round =>
        obtain ⟨k, hk, rfl, rfl, hO, hb, hlow⟩ := hrel
        clear hO0 hb0
        obtain ⟨va, vc, rfl⟩ := own_form hO
        by_cases hle : pw bn k ≤ M
        · have hk13 : k ≤ 13 := low14 hbn hM9 hle
          have hp0 : 0 < pw bn k := pw_pos (by omega)
          have e1 := pw_succ bn k
          have b1 := pw_le (b := bn) (d := k + 1) hbn10 (by omega)
          have b0 := pw_pos (b := bn) (d := k + 1) (by omega)
          have v1 : IntKind.i64.wrap (pw bn k * (bn : Int)) = pw bn k * (bn : Int) := by rw [← e1]; exact wrap_in _ (by omega) (by omega)
          have C := cOver va vc bn (pw bn k) (passL bn zs k) wr (Ints.own hO rfl) (pass_train (by omega) hT k) hbn hbn10 (by omega) (pw_le hbn10 (by omega))
          have hP : humpL bn (pw bn k) (passL bn zs k) = passL bn zs (k + 1) := rfl
          rw [hP] at C
          have hlow2 : Hid (∀ j, j < k + 1 → pw bn j ≤ M) := hide (fun j hj => by
            by_cases h9 : j = k
            · subst h9; exact hle
            · exact hlow.out j (by omega))
          rw [← e1] at v1
          replace e1 := hide e1
          clear hO hlow hP
          generalize hL : (passL bn zs k).length = N at *
          go_wp2_with fail
          refine C.mono ?_
          rintro e w5 ⟨v5, rfl, hO5, hb5⟩
          have hO6 := RowI.own_below (B' := w.heap.size) hO5 hb.size
          have hB6 := btrans hb hb5
          clear hO5 hb5 C hb
          obtain ⟨va5, vc5, rfl⟩ := own_form hO6
          rw [e1.out] at v1
          go_wp2
          go_roundw
          case rel => exact ⟨k + 1, by omega, by go_num, by rw [e1.out], hO6, hB6, hlow2⟩
          case measure => simp [intOf]; omega
        · have hR : Hid (SortR zs bn (passL bn zs k) (k : Int)) := hide ⟨fun g => by (rw [hok.out] at g; cases g), fun _ => ⟨k, rfl, ⟨fun j hj => by rw [hM.out]; exact hlow.out j hj, by rw [hM.out]; show M < pw bn k; omega⟩, rfl⟩⟩
          clear hlow
          go_wp2
          go_ret2
          exact ⟨_, _, _, rfl, hR.out, hO, hb⟩
end Go.Proofs.Ytipechbhhpagiaa
