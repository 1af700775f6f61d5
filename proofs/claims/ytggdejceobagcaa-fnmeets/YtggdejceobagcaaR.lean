/- The closure that tells all line-ups ahead, at every place; and ahead. -/
import Derived.Test.YtggdejceobagcaaQ
import Derived.Laws.EntriesVeiled
namespace Go.Proofs.Ytggdejceobagcaa
open Go.RowKit Go.Maps
theorem Spr.far {w w' : World} {r : Option Nat} {ba bs bm : Nat} (h : Spr w ba bs bm) (hg : w.grownBy w' r) (h1 : some ba ≠ r) (h2 : some bs ≠ r) : Spr w' ba bs bm :=
  ⟨(hg.block ba (lt_of_block h.all) h1).trans h.all, (hg.block bs (lt_of_block h.fn) h2).trans h.fn⟩
theorem gset_new {w w' : World} {r : Option Nat} {b : Nat} (h : w.grownBy w' r) (hb : w.heap.size ≤ b) (o : Nat) (v : Value) : w.grownBy (w'.setCell ⟨b, o, none⟩ v) r :=
  ⟨h.os, h.tape, h.output, by simpa using h.size, fun k hk hne => (Below.heap_setCell _ _ _ _ (by show k ≠ b; omega)).trans (h.block k hk hne)⟩
theorem grow_below {w w' w2 : World} {r : Option Nat} (h : w.grownBy w' r) (hb : Below w'.heap.size w' w2) : w.grownBy w2 r :=
  ⟨hb.os.trans h.os, hb.tape.trans h.tape, hb.output.trans h.output, Nat.le_trans h.size hb.size, fun k hk hne => (hb.block k (Nat.lt_of_lt_of_le hk h.size)).trans (h.block k hk hne)⟩

set_option maxRecDepth 20000 in
set_option maxHeartbeats 3200000 in
theorem cSpread (ba bs bm : Nat) (r : Nat) : ∀ (p : Nat), p + r = 4 → ∀ (l : List SingleV) (left : Int) (n : Nat) (D : DataW Unit) (w : World), Nice l → 0 ≤ left → left ≤ 8 * p → Spr w ba bs bm → OM w bm n D → n + 9 ^ r ≤ 10000 →
    Calls Try.prog 69 #[luVal l, .int .i64 p, .int .i64 left, .pointer (some ⟨ba, 0, none⟩), .pointer (some ⟨bs, 0, none⟩)] w fun e w' => e = .returned (.tuple #[]) ∧
      ∃ n' D', OM w' bm n' D' ∧ n' ≤ n + 9 ^ r ∧ TellAll p l left (look D) (look D') ∧ w.grownBy w' (some bm) := by
  induction r with
  | zero =>
    intro p hp l left n D w hl h0 h1 hs hm hn
    obtain rfl : p = 4 := by omega
    refine (cSpread0 ba bs bm l left n D w hl h0 (by omega) hs hm (by omega)).mono ?_
    rintro e w1 ⟨rfl, D', a, b, c⟩
    exact ⟨rfl, n + 1, D', a, by simp, b, c⟩
  | succ r IH =>
    intro p hp l left n D w hl h0 h1 hs hm hn
    have hp4 : p < 4 := by omega
    have hpow : 9 ^ (r + 1) = 9 * 9 ^ r := by rw [Nat.pow_succ]; omega
    have hA8 := hl.away_le hp4
    have hnice := fun j (hj : j ≤ away (At l p)) => hl.set hp4 hj
    have hstep := fun j f f' f'' => Told.step (p := p) (l := l) (left := left) (j := j) (f := f) (f' := f') (f'' := f'') hp4 hl.len
    have hall := fun f f' => Told.all (p := p) (l := l) (left := left) (f := f) (f' := f') hp4 hl.len
    have hrg := hl.rng p hp4
    have hll := hl.len
    have hup0 := Up.new w l
    have CA := fun w' => cAway (At l p) w' (by omega) (by omega) (by omega) (by omega)
    have hset0 : l.set p (mv (At l p) 0) = l := by
      rw [mv_zero]
      apply List.ext_getElem (by simp)
      intro j h1 h2
      rw [List.getElem_set]
      split
      · next e => subst e; simp [At, List.getD, h2]
      · rfl
    generalize hA : away (At l p) = A at *
    generalize hC : 9 ^ r = C at *
    have hmvb := fun j (hj : j ≤ A) => (hnice j hj).rng p hp4
    have hnext := fun j (hj : j < A) => mv_next (t := At l p) (j := j) (by omega)
    rw [luVal_at hll]
    have hs0 := hs.below (balloc w (.cells #[.int .i64 (At l 0).s, .int .i64 (At l 0).d, .int .i64 (At l 1).s, .int .i64 (At l 1).d, .int .i64 (At l 2).s, .int .i64 (At l 2).d, .int .i64 (At l 3).s, .int .i64 (At l 3).d] 74))
    have hm0 : OM (w.alloc (.cells #[.int .i64 (At l 0).s, .int .i64 (At l 0).d, .int .i64 (At l 1).s, .int .i64 (At l 1).d, .int .i64 (At l 2).s, .int .i64 (At l 2).d, .int .i64 (At l 3).s, .int .i64 (At l 3).d] 74)) bm n D := hm.alloc _
    have hg0 := World.grownBy_alloc w (.cells #[.int .i64 (At l 0).s, .int .i64 (At l 0).d, .int .i64 (At l 1).s, .int .i64 (At l 1).d, .int .i64 (At l 2).s, .int .i64 (At l 2).d, .int .i64 (At l 3).s, .int .i64 (At l 3).d] 74) (some bm)
    obtain ⟨⟨u0, u1⟩, -⟩ := hup0 p hp4
    have hpn : ¬ ((p : Int) = 4) := by omega
    go_enter Try.func69, Try.ntmps69
    go_wp2_with fail
    unfold SingleV.val at CA
    refine (CA _).mono ?_
    rintro e w1 ⟨rfl, hb1⟩
    have U1 := hup0.below hb1
    have S1 := hs0.below hb1
    have M1 := OM.below hm0 hb1
    have G1 := grow_below hg0 hb1
    have hba := lt_of_block hs.all
    have hbs := lt_of_block hs.fn
    have hbm := hm.lt
    clear u0 u1 hup0 hs0 hm0 hg0 hb1 CA hs hm hA hC
    replace hstep := hide hstep
    replace hall := hide hall
    replace hnice := hide hnice
    replace hnext := hide hnext
    replace hmvb := hide hmvb
    replace hpow := hide hpow
    have hset0' := hide hset0
    clear hset0
    go_wp2
    go_loopw [8] (fun aw wr => ∃ (j n' : Nat) (D' : DataW Unit), j ≤ A ∧ aw = .int .i64 ((A : Int) - j) ∧ Up wr w.heap.size (l.set p (mv (At l p) j)) ∧ Spr wr ba bs bm ∧ OM wr bm n' D' ∧ n' ≤ n + j * C ∧ Told p l left j (look D) (look D') ∧ w.grownBy wr (some bm)) (fun aw _ => (intOf aw).toNat)
    case atStart => exact ⟨0, n, D, Nat.zero_le _, by simp, by rw [hset0'.out]; exact U1, S1, M1, by omega, Told.start _ _ _ _, G1⟩
    case round =>
      obtain ⟨j, n', D', hj, rfl, U, S, M, hn', hT, G⟩ := hrel
      clear U1 S1 M1 G1 hset0'
      have cF := cell_of_one S.fn
      have hUne := map_ne M (U 0 (by omega)).1.1
      have N := hnice.out j hj
      obtain ⟨⟨u0, u1⟩, ⟨u2, u3⟩, ⟨u4, u5⟩, u6, u7⟩ := U.eight
      have hmul : (j + 1) * C = j * C + C := by rw [Nat.add_mul, Nat.one_mul]
      have hmul9 : (j + 1) * C ≤ 9 * C := Nat.mul_le_mul_right _ (by omega)
      have hp1 : ((p + 1 : Nat) : Int) = (p : Int) + 1 := by omega
      have hpw := hpow.out
      by_cases hlt : j < A
      · have hpos : (0 : Int) < (A : Int) - j := by omega
        have eL : left + ((A - j : Nat) : Int) = left + ((A : Int) - (j : Int)) := by omega
        have IHj := IH (p + 1) (by omega) (l.set p (mv (At l p) j)) (left + ((A - j : Nat) : Int)) n' D' wr N (by omega) (by omega) S M (by omega)
        rw [luVal_at N.len, hp1, eL] at IHj
        have hst := hstep.out j (look D) (look D')
        rw [eL] at hst
        have hbnd := hmvb.out j hj
        rw [At_set_same (by omega)] at hbnd
        obtain ⟨hnx1, hnx2⟩ := hnext.out j hlt
        have CO := fun w' => cOnw (mv (At l p) j) w' (by omega) (by omega)
        rw [onw_next hnx2, show nextS (mv (At l p) j) = (mv (At l p) (j + 1)).s by rw [← hnx1]] at CO
        have hmvd : (mv (At l p) j).d = (mv (At l p) (j + 1)).d := rfl
        clear IH hmul9 hpw hpow hnice hstep hnext hall hmvb hnx1 hnx2 eL hp1
        go_wp2_with fail
        refine IHj.mono ?_
        rintro e w2 ⟨rfl, n2, D2, M2, hn2, g, G2⟩
        have U2 := U.far G2 (by simp; exact hUne)
        have S2 := S.grow M G2
        have GW := gtrans G G2
        have hT2 := hst _ hj hT g
        obtain ⟨⟨v0, v1⟩, -⟩ := U2 p hp4
        rw [At_set_same (by omega)] at v0 v1
        unfold SingleV.val at CO
        clear u0 u1 u2 u3 u4 u5 u6 u7 U S M G hT g G2 IHj cF hst N
        go_wp2_with fail
        refine (CO _).mono ?_
        rintro e w3 ⟨rfl, hb3⟩
        have U3 := U2.below hb3
        have S3 := S2.below hb3
        have M3 := OM.below M2 hb3
        have G3 := grow_below GW hb3
        obtain ⟨⟨z0, z1⟩, f0, -⟩ := U3 p hp4
        have U4 := U3.set (by simp; exact hll) hp4 (mv (At l p) (j + 1)).s
        rw [At_set_same (by omega), List.set_set, hmvd] at U4
        have S4 := S3.far (gset (b := w.heap.size) (World.grownBy.refl _ _) (p * 2) (.int .i64 (mv (At l p) (j + 1)).s)) (by simp; omega) (by simp; omega)
        have M4 := World.ownsMap.setCell M3 (a := ⟨w.heap.size, p * 2, none⟩) (fun e => hUne e.symm) (.int .i64 (mv (At l p) (j + 1)).s)
        have G4 := gset_new G3 (Nat.le_refl _) (p * 2) (.int .i64 (mv (At l p) (j + 1)).s)
        replace hT2 := hide hT2
        have U4' : Up (w3.setCell ⟨w.heap.size, p * 2, none⟩ (.int .i64 (mv (At l p) (j + 1)).s)) w.heap.size (l.set p (mv (At l p) (j + 1))) := U4
        clear U2 U3 U4 S2 S3 M2 M3 GW G3 hb3 CO v0 v1 z1 hmvd
        generalize hE1 : mv (At l p) (j + 1) = E1 at *
        replace hE1 := hide hE1
        go_wp2
        go_roundw
        case rel => exact ⟨j + 1, n2, D2, by omega, by go_num, by rw [hE1.out]; exact U4', S4, M4, by omega, hT2.out, G4⟩
        case measure => simp [intOf]; omega
      · obtain rfl : j = A := by omega
        have IHA := IH (p + 1) (by omega) (l.set p (mv (At l p) j)) left n' D' wr N h0 (by omega) S M (by omega)
        rw [luVal_at N.len, hp1] at IHA
        have hst := hstep.out j (look D) (look D')
        rw [Nat.sub_self, show left + ((0 : Nat) : Int) = left by omega] at hst
        clear IH hnice hstep hnext hmvb hp1
        go_wp2_with fail
        refine IHA.mono ?_
        rintro e w2 ⟨rfl, n2, D2, M2, hn2, g, G2⟩
        have hT2 := hall.out _ _ (hst _ hj hT g)
        have GW := gtrans G G2
        clear IHA U S M G hT g G2 hst hall N u0 u1 u2 u3 u4 u5 u6 u7
        replace hT2 := hide hT2
        go_wp2
        go_end0
        exact ⟨rfl, n2, D2, M2, by rw [hpow.out]; omega, hT2.out, GW⟩

theorem new_at (W : World) (o : Obj) (n : Nat) (h : n = W.heap.size) : (W.alloc o).heap[n]? = some o := by
  subst h
  show (W.heap.push _)[W.heap.size]? = _
  simp
theorem old_at {W : World} {n : Nat} {x : Obj} (o : Obj) (h : W.heap[n]? = some x) : (W.alloc o).heap[n]? = some x := ((balloc W o).block n (lt_of_block h)).trans h

set_option maxRecDepth 20000 in
set_option maxHeartbeats 1600000 in
theorem cAhead (l : List SingleV) (w : World) (hl : Nice l) :
    Calls Try.prog 62 #[luVal l] w fun e w' => ∃ bm n D, e = .returned (.map (some bm)) ∧ OM w' bm n D ∧ n ≤ 6561 ∧ w.heap.size ≤ bm ∧ (∀ q, Nice q → InFrom 0 l q → look D q = some (far q : Int)) ∧ Below w.heap.size w w' := by
  have hmm := @run_makeMap Try.prog
  have hmf : ∀ (fn : Fn) (first cap : Array Value) (w : World), (Instr.makeFunc fn first cap).run Try.prog w = .ok (.func fn first cap) w := fun _ _ _ _ => rfl
  have S : Spr ((((w.alloc (.cells #[.int .i64 (At l 0).s, .int .i64 (At l 0).d, .int .i64 (At l 1).s, .int .i64 (At l 1).d, .int .i64 (At l 2).s, .int .i64 (At l 2).d, .int .i64 (At l 3).s, .int .i64 (At l 3).d] 74)).alloc (.map #[] 0)).alloc (.cells #[.map (some (w.heap.size + 1))] 75)).alloc (.cells #[.func (.func 69) #[] #[.pointer (some ⟨w.heap.size + 1 + 1, 0, none⟩), .pointer (some ⟨w.heap.size + 1 + 1 + 1, 0, none⟩)]] 82)) (w.heap.size + 1 + 1) (w.heap.size + 1 + 1 + 1) (w.heap.size + 1) :=
    ⟨old_at _ (new_at _ _ _ (by simp)), new_at _ _ _ (by simp)⟩
  have M0 := World.ownsMap_made (H := Unit) (w.alloc (.cells #[.int .i64 (At l 0).s, .int .i64 (At l 0).d, .int .i64 (At l 1).s, .int .i64 (At l 1).d, .int .i64 (At l 2).s, .int .i64 (At l 2).d, .int .i64 (At l 3).s, .int .i64 (At l 3).d] 74)) Try.prog 74 (plainElem Try.prog 3)
  rw [sz1] at M0
  have M : OM ((((w.alloc (.cells #[.int .i64 (At l 0).s, .int .i64 (At l 0).d, .int .i64 (At l 1).s, .int .i64 (At l 1).d, .int .i64 (At l 2).s, .int .i64 (At l 2).d, .int .i64 (At l 3).s, .int .i64 (At l 3).d] 74)).alloc (.map #[] 0)).alloc (.cells #[.map (some (w.heap.size + 1))] 75)).alloc (.cells #[.func (.func 69) #[] #[.pointer (some ⟨w.heap.size + 1 + 1, 0, none⟩), .pointer (some ⟨w.heap.size + 1 + 1 + 1, 0, none⟩)]] 82)) (w.heap.size + 1) 0 (.map []) := (M0.alloc _).alloc _
  have HB : Below w.heap.size w ((((w.alloc (.cells #[.int .i64 (At l 0).s, .int .i64 (At l 0).d, .int .i64 (At l 1).s, .int .i64 (At l 1).d, .int .i64 (At l 2).s, .int .i64 (At l 2).d, .int .i64 (At l 3).s, .int .i64 (At l 3).d] 74)).alloc (.map #[] 0)).alloc (.cells #[.map (some (w.heap.size + 1))] 75)).alloc (.cells #[.func (.func 69) #[] #[.pointer (some ⟨w.heap.size + 1 + 1, 0, none⟩), .pointer (some ⟨w.heap.size + 1 + 1 + 1, 0, none⟩)]] 82)) := btrans (btrans (btrans (balloc w _) (balloc _ _)) (balloc _ _)) (balloc _ _)
  have C := cSpread (w.heap.size + 1 + 1) (w.heap.size + 1 + 1 + 1) (w.heap.size + 1) 4 0 rfl l 0 0 (.map []) _ hl (by omega) (by omega) S M (by omega)
  rw [luVal_at hl.len, Int.natCast_zero] at C
  rw [luVal_at hl.len]
  go_enter Try.func62, Try.ntmps62
  go_wp2_with fail
  refine C.mono ?_
  rintro e w5 ⟨rfl, n', D', M5, hn, hT, G5⟩
  have S5 := S.grow M G5
  have cA := cell_of_one S5.all
  have HB5 : Below w.heap.size w w5 := HB.grown G5 HB.size (fun k hk => by cases hk; omega)
  have hL : ∀ q, Nice q → InFrom 0 l q → look D' q = some (far q : Int) := fun q hq hi => by
    rw [hT.yes q hq hi, List.drop_zero, Int.zero_add]
  clear C S M M0 HB G5 hT S5
  replace hL := hide hL
  go_wp2
  go_ret
  exact ⟨_, n', D', rfl, M5, by omega, by omega, hL.out, HB5⟩
end Go.Proofs.Ytggdejceobagcaa
