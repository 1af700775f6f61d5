/- Carded of the program. -/
import Derived.Test.YtepdnaahhkkdeaaCE
import Derived.BigQuiet
import Derived.Maps.AppendAt
namespace Go.Proofs.Ytepdnaahhkkdeaa
open Go.RowKit
theorem infoFn : (Try.prog.info? 59).map (fun i => (i.zero, i.size, i.bytes)) = some (some Value.nilFunc, 1, 8) := by kernel_rfl
theorem filter_take {P : CardV → Bool} {cs : List CardV} {k : Nat} (hk : k < cs.length) : (cs.take (k + 1)).filter P = (cs.take k).filter P ++ (if P cs[k] then [cs[k]] else []) := by
  rw [List.take_succ_eq_append_getElem hk, List.filter_append]
  congr 1
  simp only [List.filter_cons, List.filter_nil]
/-- What stands behind k cards. -/
def PrI (w wr : World) (TT : Value × Value × Value × Value) (m : Int) (cs : List CardV) (k : Nat) (v : Value) : Prop :=
  ∃ L : List (CardV × Nat), Prs wr w.heap.size w.heap.size v L ∧ L.map Prod.fst = (cs.take k).filter (cntB m) ∧ Bx4 wr w.heap.size TT.1 TT.2.1 TT.2.2.1 TT.2.2.2 ∧ v.ownBlock ≠ some w.heap.size ∧ Below w.heap.size w wr ∧ L.length ≤ k

set_option maxRecDepth 20000 in
set_option maxHeartbeats 3200000 in
theorem cPricings (b s r m : Int) (js : List Int) (a : Option Addr) (c : Nat) (ca : Option Addr) (cc : Nat) (cs : List CardV) (w : World) (hL : Cards w ca cs) (hl : cs.length ≤ 6) (hm : 0 ≤ m) :
    Calls Try.prog 55 #[.agg #[.int .i64 b, .int .i64 s, .slice a js.length c, .int .i64 r], .slice ca cs.length cc, .int .i64 m] w fun e w' => ∃ v, e = .returned v ∧ PrI w w' (.int .i64 b, .int .i64 s, .slice a js.length c, .int .i64 r) m cs cs.length v := by
  obtain ⟨i0, hi, hz0, hz1, hz2⟩ := info_parts infoFn
  have hW := balloc w (.cells #[.int .i64 b, .int .i64 s, .slice a js.length c, .int .i64 r] 27)
  have X := Bx4.new w (.int .i64 b) (.int .i64 s) (.slice a js.length c) (.int .i64 r) 27
  go_enter Try.func55, Try.ntmps55
  go_wp2
  go_loopw [7, 9, 12] (fun v _ i wr => ∃ k : Nat, k ≤ cs.length ∧ i = .int .i64 k ∧ PrI w wr (.int .i64 b, .int .i64 s, .slice a js.length c, .int .i64 r) m cs k v) (fun _ _ i _ => cs.length - (intOf i).toNat)
  case atStart => exact ⟨0, Nat.zero_le _, rfl, [], ⟨World.ownsRow_nil _ _ _ _, by simp, by simp⟩, by simp, X, by simp [Value.ownBlock], hW, Nat.le_refl _⟩
  case round =>
    obtain ⟨k, hk, rfl, L, hP, hF, hT, hN, hb, hLk⟩ := hrel
    clear X hW
    obtain ⟨va, vc, rfl⟩ := own_form hP.row
    by_cases hlt : k < cs.length
    · rcases hL with h | ⟨bb, off, rfl, hc⟩
      · simp [h] at hlt
      obtain ⟨q0, q1, q2, q3⟩ := hc k hlt
      have p0 := ble hb q0
      have p1 := ble hb q1
      have p2 := ble hb q2
      have p3 := ble hb q3
      have hbs := cell_lt q0
      clear hc q0 q1 q2 q3
      have hf := hide (filter_take (P := cntB m) hlt)
      have e0 : cs.getD k CardV.zero = cs[k] := by simp [List.getD, hlt]
      rw [e0] at p0 p1 p2 p3
      generalize cs[k] = y at *
      clear e0
      have hsz := hb.size
      have hbA := balloc wr (.cells #[.int .i64 y.p, .int .i64 y.l, .int .i64 y.f, .int .i64 y.t] 61)
      have Y : CdAt (wr.alloc (.cells #[.int .i64 y.p, .int .i64 y.l, .int .i64 y.f, .int .i64 y.t] 61)) (y, wr.heap.size) := Bx4.new wr _ _ _ _ _
      have hP1 := hP.below hbA
      have hT1 := hT.below hbA
      have hb1 := btrans hb hbA
      have hws : w.heap.size < wr.heap.size := cell_lt hT.1
      have hvl : ∀ j, (Value.slice va L.length vc).ownBlock = some j → j < wr.heap.size := own_blk_lt hP.row
      have hfrom := own_from hP.row (Nat.le_refl _)
      have hm2 : m.tmod 1440 = m % 1440 := Int.tmod_eq_emod_of_nonneg hm
      have hm3 : 0 ≤ m % 1440 ∧ m % 1440 < 1440 := by omega
      have v1 : IntKind.i64.wrap (m % 1440) = m % 1440 := wrap_in _ (by omega) (by omega)
      have hF := hide hF
      cases hy : inB (m % 1440) y.f y.t
      · have hF2 := hide (show L.map Prod.fst = (cs.take (k + 1)).filter (cntB m) by rw [hf.out, hF.out, show cntB m y = false from hy]; simp)
        clear hf hF
        go_wp2_with (go_at_call 45; refine (cWithin _ _ _ _).mono ?_; rintro e w' ⟨rfl, rfl⟩)
        go_roundw
        case rel => exact ⟨k + 1, by omega, by go_num, L, hP1, hF2.out, hT1, hN, hb1, by omega⟩
        case measure => simp [intOf]; omega
      · have hF2 := hide (show (L ++ [(y, wr.heap.size)]).map Prod.fst = (cs.take (k + 1)).filter (cntB m) by rw [hf.out, List.map_append, hF.out, show cntB m y = true from hy]; simp)
        clear hf hF
        have hs1 : (wr.alloc (.cells #[.int .i64 y.p, .int .i64 y.l, .int .i64 y.f, .int .i64 y.t] 61)).heap.size = wr.heap.size + 1 := sz1 _ _
        go_wp2_with (first
          | (go_at_call 45; refine (cWithin _ _ _ _).mono ?_; rintro e w' ⟨rfl, rfl⟩)
          | (at_builtin; refine wpList_append_own_at _ rfl _ _ 67 rfl w.heap.size 59 i0 .nilFunc 1 8 Try.underlying67 hi hz0 hz1 hz2 rfl (by decide) _ _ _ rfl (hP1.row.alloc _) ⟨wr.heap.size + 1, 0, none⟩ 1 1 [clo w.heap.size (y, wr.heap.size)] rfl rfl ?c1 ?c2 ?c3 ?c4 ?c5 ?_))
        case c1 =>
          intro j x hj
          match j, hj with
          | 0, hj => simp at hj; subst hj; simp [Addr.add, clo]
        case c2 => intro x hx; simp at hx; subst hx; rfl
        case c3 => unfold maxLen; omega
        case c4 => omega
        case c5 => simp; omega
        intro v5 w5 hown5 hgrow5 _ hloc5
        have hbl : Below (wr.alloc (.cells #[.int .i64 y.p, .int .i64 y.l, .int .i64 y.f, .int .i64 y.t] 61)).heap.size (wr.alloc (.cells #[.int .i64 y.p, .int .i64 y.l, .int .i64 y.f, .int .i64 y.t] 61)) ((wr.alloc (.cells #[.int .i64 y.p, .int .i64 y.l, .int .i64 y.f, .int .i64 y.t] 61)).alloc (.cells #[clo w.heap.size (y, wr.heap.size)] 59)) := balloc _ _
        have hb5 : Below w.heap.size w w5 := (btrans hb1 hbl).grown hgrow5 (by simp; omega) (fun j e => hfrom j e)
        have ho5 : w5.ownsRow w.heap.size 59 1 v5 (L ++ [(y, wr.heap.size)]).length ((L ++ [(y, wr.heap.size)]).map (clo w.heap.size)) := by rw [List.map_append, List.length_append]; exact hown5
        have hne0 : (Value.slice va L.length vc).ownBlock ≠ some wr.heap.size := fun e => by have := hvl _ e; omega
        have hfar : ∀ j, j < (wr.alloc (.cells #[.int .i64 y.p, .int .i64 y.l, .int .i64 y.f, .int .i64 y.t] 61)).heap.size → (Value.slice va L.length vc).ownBlock ≠ some j → v5.ownBlock ≠ some j := by
          intro j hj hn
          rcases hloc5 with e | e
          · rw [e]; exact hn
          · rw [e]; simp; omega
        have hP5 : Prs w5 w.heap.size w.heap.size v5 (L ++ [(y, wr.heap.size)]) := by
          refine ⟨ho5, fun q hq => ?_, fun q hq => ?_⟩
          · rcases List.mem_append.1 hq with hq | hq
            · exact Bx4.far (Bx4.below (hP1.cd q hq) hbl) hgrow5 (fun e => hP1.far q hq e.symm)
            · rw [List.mem_singleton.1 hq]
              exact Bx4.far (Bx4.below Y hbl) hgrow5 (fun e => hne0 e.symm)
          · rcases List.mem_append.1 hq with hq | hq
            · exact hfar q.2 (cell_lt (hP1.cd q hq).1) (hP1.far q hq)
            · rw [List.mem_singleton.1 hq]
              exact hfar _ (by omega) hne0
        have hT5 := Bx4.far (Bx4.below hT1 hbl) hgrow5 (fun e => hN e.symm)
        have hN5 := hfar w.heap.size (by omega) hN
        clear hown5 hgrow5 hloc5 ho5 hP1 hT1 hP hT
        go_wp2
        go_roundw
        case rel => exact ⟨k + 1, by omega, by go_num, L ++ [(y, wr.heap.size)], hP5, hF2.out, hT5, hN5, hb5, by simp; omega⟩
        case measure => simp [intOf]; omega
    · obtain rfl : k = cs.length := by omega
      clear hL
      go_wp2
      go_ret
      exact ⟨_, rfl, L, hP, hF, hT, hN, hb, hLk⟩

set_option maxRecDepth 20000 in
set_option maxHeartbeats 3200000 in
theorem cCardedI (b s r fare m : Int) (js : List Int) (a : Option Addr) (c : Nat) (ca : Option Addr) (cc : Nat) (cs : List CardV) (w : World) (hz : Ints w a js) (hl : js.length ≤ 1048576) (hL : Cards w ca cs) (hl2 : cs.length ≤ 1048576) :
    Calls Try.prog 25 #[.agg #[.int .i64 b, .int .i64 s, .slice a js.length c, .int .i64 r], .int .i64 fare, .slice ca cs.length cc, .int .i64 m] w fun e w' => e = .returned (.int .i64 (cardedV b s js r fare cs m)) ∧ Below w.heap.size w w' := by
  have hW := balloc w (.cells #[.int .i64 b, .int .i64 s, .slice a js.length c, .int .i64 r] 27)
  have X := Bx4.new w (.int .i64 b) (.int .i64 s) (.slice a js.length c) (.int .i64 r) 27
  have C := cTfI b s r js a c _ (hz.below hW) hl
  cases h0 : tfB b s js r
  · have R := hide (cardedV_t (fare := fare) (m := m) (cs := cs) h0)
    rw [h0] at C
    go_enter Try.func25, Try.ntmps25
    go_wp2_with (go_at_call 15; refine C.mono ?_; rintro e w' ⟨rfl, hb⟩; have HB := btrans hW hb; obtain ⟨x0, x1, x2, x3⟩ := X.below hb; clear hb)
    go_ret
    exact ⟨ret_int R.out.symm, HB⟩
  rw [h0] at C
  have CC := fun w1 (hb : Below w.heap.size w w1) => cCardsI ca cc cs w1 (hL.below hb) hl2
  cases h1 : cardsB cs
  · have R := hide (cardedV_c (b := b) (s := s) (r := r) (js := js) (fare := fare) (m := m) h1)
    rw [h1] at CC
    go_enter Try.func25, Try.ntmps25
    go_wp2_with (first | (go_at_call 15; refine C.mono ?_; rintro e w' ⟨rfl, hb⟩; have HB := btrans hW hb; obtain ⟨x0, x1, x2, x3⟩ := X.below hb; clear hb) | (go_at_call 22; refine (CC _ HB).mono ?_; rintro e w' ⟨rfl, hb⟩; have HB2 := btrans HB hb; clear hb))
    go_ret
    exact ⟨ret_int R.out.symm, HB2⟩
  rw [h1] at CC
  cases h2 : payB fare
  · have R := hide (cardedV_f (b := b) (s := s) (r := r) (js := js) (cs := cs) (m := m) h2)
    go_enter Try.func25, Try.ntmps25
    go_wp2_with (first | (go_at_call 15; refine C.mono ?_; rintro e w' ⟨rfl, hb⟩; have HB := btrans hW hb; obtain ⟨x0, x1, x2, x3⟩ := X.below hb; clear hb) | (go_at_call 22; refine (CC _ HB).mono ?_; rintro e w' ⟨rfl, hb⟩; have HB2 := btrans HB hb; clear hb) | (go_at_call 53; refine (cPay _ _).mono ?_; rintro e w' ⟨rfl, hw'⟩; subst w'))
    go_ret
    exact ⟨ret_int R.out.symm, HB2⟩
  cases h3 : minB m
  · have R := hide (cardedV_m (b := b) (s := s) (r := r) (js := js) (cs := cs) (fare := fare) h3)
    go_enter Try.func25, Try.ntmps25
    go_wp2_with (first | (go_at_call 15; refine C.mono ?_; rintro e w' ⟨rfl, hb⟩; have HB := btrans hW hb; obtain ⟨x0, x1, x2, x3⟩ := X.below hb; clear hb) | (go_at_call 22; refine (CC _ HB).mono ?_; rintro e w' ⟨rfl, hb⟩; have HB2 := btrans HB hb; clear hb) | (go_at_call 53; refine (cPay _ _).mono ?_; rintro e w' ⟨rfl, hw'⟩; subst w') | (go_at_call 54; refine (cMin _ _).mono ?_; rintro e w' ⟨rfl, hw'⟩; subst w'))
    go_ret
    exact ⟨ret_int R.out.symm, HB2⟩
  have R := hide (cardedV_ok h0 h1 h2 h3)
  have g2 := inB_true h2
  have g3 := inB_true h3
  have T := Tf.of h0
  have hcl := cards_len h1
  have hcd : ∀ q ∈ cs, Cd q := by
    intro q hq
    simp only [cardsB, Bool.and_eq_true, List.all_eq_true] at h1
    exact Cd.of (h1.2 q hq)
  go_enter Try.func25, Try.ntmps25
  go_wp2_with fail
  refine C.mono ?_
  rintro e w1 ⟨rfl, hb⟩
  have HB := btrans hW hb
  have X1 := X.below hb
  clear hb C X hW h0
  go_wp2_with fail
  refine (CC _ HB).mono ?_
  rintro e w2 ⟨rfl, hb⟩
  replace HB := btrans HB hb
  replace X1 := X1.below hb
  clear hb CC h1
  have CP := cPricings b s r m js a c ca cc cs w2 (hL.below HB) hcl g3.1
  obtain ⟨x0, x1, x2, x3⟩ := X1
  go_wp2_with (first | (go_at_call 53; refine (cPay _ _).mono ?_; rintro e w' ⟨rfl, hw'⟩; subst w') | (go_at_call 54; refine (cMin _ _).mono ?_; rintro e w' ⟨rfl, hw'⟩; subst w'))
  refine CP.mono ?_
  rintro e w3 ⟨v, rfl, L, hP, hF, hT, -, hb, -⟩
  replace HB := btrans HB hb
  clear hb CP x0 x1 x2 x3
  obtain ⟨va, vc, rfl⟩ := own_form hP.row
  have hLl : L.length ≤ 6 := by
    have e1 : L.length = ((cs.take cs.length).filter (cntB m)).length := by rw [← hF, List.length_map]
    have e2 := List.length_filter_le (cntB m) (cs.take cs.length)
    rw [List.take_length] at e2
    rw [List.take_length] at e1
    omega
  have hCd : ∀ q ∈ L, Cd q.1 := by
    intro q hq
    refine hcd _ ?_
    have : q.1 ∈ (cs.take cs.length).filter (cntB m) := by rw [← hF]; exact List.mem_map_of_mem hq
    exact List.mem_of_mem_take (List.mem_filter.1 this).1
  have RB := hide (show cardedV b s js r fare cs m = pmin r fare ((L.take L.length).map Prod.fst) by rw [R.out, cbest_filter, List.take_length, hF, List.take_length])
  clear R hF hcd h2 h3
  go_wp2
  go_loopw [9, 11, 36] (fun p _ i wr => ∃ k : Nat, k ≤ L.length ∧ i = .int .i64 k ∧ p = .int .i64 (pmin r fare ((L.take k).map Prod.fst)) ∧ Below w3.heap.size w3 wr) (fun _ _ i _ => L.length - (intOf i).toNat)
  case atStart => exact ⟨0, Nat.zero_le _, rfl, by simp [pmin], Below.refl _ _⟩
  case round =>
    obtain ⟨k, hk, rfl, rfl, hb⟩ := hrel
    have fin := btrans HB hb
    by_cases hlt : k < L.length
    · obtain ⟨g, rfl, hc⟩ := own_cells hP.row k hlt
      have c0 : wr.cell? ⟨g, k, none⟩ = some (clo w2.heap.size L[k]) := by
        have : w3.cell? ⟨g, k, none⟩ = some (clo w2.heap.size L[k]) := by rw [hc]; simp [hlt]
        exact ble hb this
      have hmem : L[k] ∈ L := List.getElem_mem hlt
      have CR := cPrice w2.heap.size L[k].2 b s r fare js a c L[k].1 wr (hT.below hb) (Bx4.below (hP.cd _ hmem) hb) (hCd _ hmem) T.r0 T.r1 g2.1 g2.2
      have hpr := priceC_in (r := r) (hCd _ hmem) T.r0 g2.1 g2.2
      have hpm := pmin_in (r := r) (fare := fare) T.r0 g2.1 g2.2 (cs := (L.take k).map Prod.fst) (fun q hq => by
        obtain ⟨q', hq', rfl⟩ := List.mem_map.1 hq
        exact hCd _ (List.mem_of_mem_take hq'))
      have hst := hide (show pmin r fare ((L.take (k + 1)).map Prod.fst) = min (pmin r fare ((L.take k).map Prod.fst)) (priceC r fare L[k].1) by
        rw [List.take_succ_eq_append_getElem hlt, List.map_append]
        exact pmin_app _ _ _ _)
      unfold clo at c0
      generalize L[k] = y at *
      generalize priceC r fare y.1 = P at *
      generalize pmin r fare ((L.take k).map Prod.fst) = Q at *
      have hgl := cell_lt c0
      clear hc
      rcases Int.lt_trichotomy Q P with h | h | h
      · rw [show min Q P = Q by omega] at hst
        go_wp2_with fail
        refine CR.mono ?_
        rintro e w5 ⟨rfl, hb5⟩
        have hb6 := btrans hb hb5
        go_wp2
        go_roundw
        case rel => exact ⟨k + 1, by omega, by go_num, by rw [hst.out], hb6⟩
        case measure => simp [intOf]; omega
      · subst h
        rw [show min Q Q = Q by omega] at hst
        go_wp2_with fail
        refine CR.mono ?_
        rintro e w5 ⟨rfl, hb5⟩
        have hb6 := btrans hb hb5
        go_wp2
        go_roundw
        case rel => exact ⟨k + 1, by omega, by go_num, by rw [hst.out], hb6⟩
        case measure => simp [intOf]; omega
      · rw [show min Q P = P by omega] at hst
        go_wp2_with fail
        refine CR.mono ?_
        rintro e w5 ⟨rfl, hb5⟩
        have hb6 := btrans hb hb5
        go_wp2
        go_roundw
        case rel => exact ⟨k + 1, by omega, by go_num, by rw [hst.out], hb6⟩
        case measure => simp [intOf]; omega
    · obtain rfl : k = L.length := by omega
      rw [← RB.out]
      go_wp2
      go_ret
      exact ⟨rfl, fin⟩
end Go.Proofs.Ytepdnaahhkkdeaa
