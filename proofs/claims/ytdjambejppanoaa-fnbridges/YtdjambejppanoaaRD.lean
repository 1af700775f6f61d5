/- What is reached, of the program. -/
import Derived.Test.YtdjambejppanoaaSO
import Derived.Lib.AppendZeros
import Derived.Lib.SmallJoins
namespace Go.Proofs.Ytdjambejppanoaa
open Go.RowKit
theorem zeroI (w : World) : (zeroValue 3).run Try.prog w = .ok (.int .i64 0) w := by kernel_rfl
/-- The nodes that are known, as keys of a map of the call's own. -/
structure Kn (w : World) (sb : Nat) (kl : List Int) (D : DataW Unit) : Prop where
  map : w.ownsMap Try.prog 3 (plainElem Try.prog 3) sb kl.length D
  has : ∀ y : Int, Maps.has D (.int .i64 y) = decide (y ∈ kl)
  num : ∀ y : Int, ∃ c : Int, 0 ≤ c ∧ c ≤ kl.length ∧ D.atKey (.int .i64 y) (.lit (.int .i64 0)) = .lit (.int .i64 c)
  size : Maps.size D = kl.length
  nodup : kl.Nodup
theorem Kn.far {w w' : World} {sb : Nat} {kl : List Int} {D : DataW Unit} {r : Option Nat} (h : Kn w sb kl D) (hg : w.grownBy w' r) (hne : some sb ≠ r) : Kn w' sb kl D := ⟨h.map.kept hg hne, h.has, h.num, h.size, h.nodup⟩
theorem Kn.below {w w' : World} {sb : Nat} {kl : List Int} {D : DataW Unit} (h : Kn w sb kl D) (hb : Below w.heap.size w w') : Kn w' sb kl D :=
  h.far (r := none) ⟨hb.os, hb.tape, hb.output, hb.size, fun k hk _ => hb.block k hk⟩ (by simp)
theorem Kn.put {w w' : World} {sb : Nat} {kl : List Int} {D : DataW Unit} (h : Kn w sb kl D) {y c : Int} (hy : y ∉ kl) (h0 : 0 ≤ c) (h1 : c ≤ kl.length + 1) (hm : w'.ownsMap Try.prog 3 (plainElem Try.prog 3) sb (kl.length + 1) (D.put (.int .i64 y) (.lit (.int .i64 c)))) :
    Kn w' sb (y :: kl) (D.put (.int .i64 y) (.lit (.int .i64 c))) := by
  refine ⟨hm, fun z => ?_, fun z => ?_, ?_, List.nodup_cons.2 ⟨hy, h.nodup⟩⟩
  · by_cases e : z = y
    · subst e; rw [Maps.has_put_same h.map.isMap (show WideAt.IsKeyLit (.int .i64 z) from trivial)]; simp
    · rw [Maps.has_put_other (by simpa using e), h.has z]; simp [e]
  · by_cases e : z = y
    · subst e; exact ⟨c, h0, by simpa using h1, by rw [Maps.atKey_put_same h.map.isMap (show WideAt.IsKeyLit (.int .i64 z) from trivial)]⟩
    · obtain ⟨d, d0, d1, d2⟩ := h.num z
      exact ⟨d, d0, by simp; omega, by rw [Maps.atKey_put_other (by simpa using e)]; exact d2⟩
  · rw [Maps.size_put (h.map.tidy lawI), h.has y, h.size]
    simp [hy]
/-- How many entries a map's block has. -/
def knSize (w : World) (sb : Nat) : Nat := match w.heap[sb]? with
  | some (.map es _) => es.size
  | _ => 0
theorem Kn.sz {w : World} {sb : Nat} {kl : List Int} {D : DataW Unit} (h : Kn w sb kl D) : knSize w sb = kl.length := by
  rw [← h.size]
  obtain ⟨es, clock, hb, _, _, rfl⟩ := h.map
  unfold knSize
  rw [hb]
  simp [Maps.size_eq, length_sorted]
def lenOf : Value → Nat
  | .slice _ n _ => n
  | _ => 0
theorem RI.known_cons {y : Int} {kl : List Int} : (fun v => v = y ∨ v ∈ kl) = (fun v => v ∈ y :: kl) := by funext v; simp
theorem rows_at {es : List EdgeV} {m x k : Nat} (hk : k < (rowsTo es m x).length) : ∃ p y l, (stepsTo es (x : Int) m)[k]? = some (p, y, l) ∧ (rowsTo es m x).getD k StepV.zero = ⟨(p : Int), y, l⟩ := by
  unfold rowsTo at hk ⊢
  rw [List.length_map] at hk
  refine ⟨((stepsTo es (x : Int) m)[k]).1, ((stepsTo es (x : Int) m)[k]).2.1, ((stepsTo es (x : Int) m)[k]).2.2, by rw [List.getElem?_eq_getElem hk], ?_⟩
  simp [List.getD, hk, stV]
theorem plainI {c : Int} (h0 : -1000000 ≤ c) (h1 : c ≤ 1000000) : plainElem (H := Unit) Try.prog 3 (.int .i64 c) = some (.lit (.int .i64 c), []) := plainElem_int Try.underlying3 (WalkArith.wf_i64 (by omega))
theorem Kn.look_run {w : World} {sb : Nat} {kl : List Int} {D : DataW Unit} (h : Kn w sb kl D) {y : Int} (h0 : -1000000 ≤ y) (h1 : y ≤ 1000000) : ∃ d : Int, 0 ≤ d ∧ d ≤ kl.length ∧ (Instr.lookup 92 (.map (some sb)) (.int .i64 y) false).run Try.prog w = .ok (.int .i64 d) w := by
  obtain ⟨c, ps, hlk, hc⟩ := h.map.lookup lawI Try.underlying92 (zeroI _) (plainI (c := 0) (by omega) (by omega)) (keyI h0 h1)
  obtain ⟨d, d0, d1, d2⟩ := h.num y
  rw [d2] at hc
  obtain ⟨c, rfl, hce, -⟩ := plainElem_int_inv Try.underlying3 hc
  simp only [Prod.mk.injEq, DataW.lit.injEq, Lit.int.injEq, true_and] at hce
  obtain ⟨rfl, -⟩ := hce
  exact ⟨d, d0, d1, hlk⟩
/-- What the outer loop holds. -/
structure OutI (w wr : World) (es : List EdgeV) (f : Int) (N : Nat) (qv : Value) (kl Q : List Int) (DM : DataW Unit) : Prop where
  qu : Qu wr (w.heap.size + 1) qv Q
  kn : Kn wr w.heap.size kl DM
  ri : RI es f (fun v => v ∈ kl) Q
  rng : ∀ v ∈ kl, 0 ≤ v ∧ v < (N : Int)
  few : Q.length ≤ kl.length
  bel : Below w.heap.size w wr
structure InI (w wr : World) (es : List EdgeV) (f x : Int) (N k M0 : Nat) (qv : Value) (kl Q : List Int) (DM : DataW Unit) : Prop where
  qu : Qu wr (w.heap.size + 1) qv (x :: Q)
  kn : Kn wr w.heap.size kl DM
  rm : RM es f x k (fun v => v ∈ kl) Q
  rng : ∀ v ∈ kl, 0 ≤ v ∧ v < (N : Int)
  few : Q.length + 1 ≤ kl.length
  mea : 2 * (N - kl.length) + Q.length ≤ M0
  bel : Below w.heap.size w wr
theorem InI.keep {w wr w2 : World} {es : List EdgeV} {f x : Int} {N k M0 : Nat} {qv : Value} {kl Q : List Int} {DM : DataW Unit} (h : InI w wr es f x N k M0 qv kl Q DM) (hb : Below wr.heap.size wr w2) : InI w w2 es f x N k M0 qv kl Q DM :=
  ⟨h.qu.below hb, h.kn.below hb, h.rm, h.rng, h.few, h.mea, btrans h.bel hb⟩
set_option maxRecDepth 100000 in
set_option maxHeartbeats 12800000 in
theorem cReachedI (mb n N B : Nat) (es : List EdgeV) (rv : Nat → Value) (DL : DataW Unit) (f : Nat) (w : World) (L : Lin w B mb n N (rowsTo es es.length) rv DL) (R : Rg (N : Int) es) (hN : N ≤ 30) (hE : es.length ≤ 60) (hf : f < N) :
    Calls Try.prog 39 #[.map (some mb), .int .i64 (f : Int)] w (IntsAns w (IsRch (N : Int) es (f : Int))) := by
  obtain ⟨i1, hi1, hy0, hy1, hy2⟩ := info_parts infoInts
  have hmm := @run_makeMap Try.prog
  have om := World.ownsMap_made w Try.prog 3 (plainElem (H := Unit) Try.prog 3)
  have K00 : Kn (w.alloc (.map #[] 0)) w.heap.size [] (.map []) := ⟨om, fun y => by simp [Maps.has_eq], fun y => ⟨0, by omega, by simp, rfl⟩, rfl, by simp⟩
  obtain ⟨w1, hrun1, om1, hg1⟩ := World.ownsMap.update om lawI Try.underlying92 (by unfold maxLen; omega) (keyI (x := (f : Int)) (by omega) (by omega)) (plainI (c := 0) (by omega) (by omega))
  have K1 := K00.put (y := (f : Int)) (c := 0) (by simp) (by omega) (by simp) om1
  have HB1 : Below w.heap.size w w1 := (balloc w (.map #[] 0)).grown hg1 (balloc w (.map #[] 0)).size (fun j hj => by cases hj; exact Nat.le_refl _)
  have hw1 : w.heap.size + 1 ≤ w1.heap.size := by have := hg1.size; simpa using this
  clear om K00 om1 hg1
  have hal := balloc w1 (.cells #[.int .i64 (f : Int)] 3)
  have Q1 : Qu (w1.alloc (.cells #[.int .i64 (f : Int)] 3)) (w.heap.size + 1) (.slice (some ⟨w1.heap.size, 0, none⟩) 1 1) [(f : Int)] :=
    ⟨w1.heap.size, 0, 1, #[.int .i64 (f : Int)], rfl, hw1, one_block _ _, by simp, by simp, fun j hj => by
      simp only [List.length_cons, List.length_nil] at hj
      obtain rfl : j = 0 := by omega
      rfl⟩
  have O1 : OutI w (w1.alloc (.cells #[.int .i64 (f : Int)] 3)) es (f : Int) N (.slice (some ⟨w1.heap.size, 0, none⟩) 1 1) [(f : Int)] [(f : Int)] _ :=
    ⟨Q1, K1.below hal, by have := RI.new es (f : Int); rwa [show (fun v => v = (f : Int)) = (fun v => v ∈ [(f : Int)]) from by funext v; simp] at this, fun v hv => by simp at hv; omega, Nat.le_refl _, btrans HB1 hal⟩
  clear K1 HB1 hal Q1
  go_enter Try.func39, Try.ntmps39
  go_wp2
  clear hrun1
  generalize w1.alloc (.cells #[.int .i64 (f : Int)] 3) = w2 at *
  generalize w1.heap.size = q1 at *
  go_loopw [6, 8, 9, 10] (fun qv _ _ _ wr => ∃ (kl Q : List Int) (DM : DataW Unit), OutI w wr es (f : Int) N qv kl Q DM) (fun qv _ _ _ wr => 2 * (N - knSize wr w.heap.size) + lenOf qv)
  case atStart => exact ⟨_, _, _, O1⟩
  case round =>
    clear O1
    obtain ⟨kl, Q, DM, O⟩ := hrel
    have hkl := pigeon N kl O.kn.nodup O.rng
    cases Q with
    | nil =>
      have hK := hide (fun v => O.ri.all v)
      obtain ⟨qg, qo, qc, rfl, hqB, hqlt, hqn, hqcell⟩ := O.qu.cell
      have hrange := hide O.rng
      have hKn := O.kn
      have hBl := O.bel
      clear O hqcell hqn
      rw [List.length_nil]
      have hTidy := hKn.map.tidy lawI
      go_wp2_with (first
        | (at_range; refine wpList_range_own _ rfl _ 92 rfl 3 3 lawI Try.underlying92 _ w.heap.size kl.length _ rfl hKn.map ?_; intro w0 hrg0 hg0 hs0)
        | go_in)
      go_simp
      have hbs := hBl.grown hg0 hBl.size (fun j hj => by cases hj)
      have hsz1 := hKn.map.lt
      generalize hcnt : Maps.size DM = c0 at *
      obtain ⟨wo, rfl⟩ : ∃ wo, wo = wr := ⟨wr, rfl⟩
      go_loopw [11, 12] (fun nv _ wr => ∃ (xs : List Int) (ao : Option Addr) (cp : Nat) (left : Lit → Bool) (cnt : Nat), nv = .slice ao xs.length cp ∧ wr.ranges Try.prog 3 (plainElem Try.prog 3) w.heap.size wo.heap.size kl.length DM left cnt ∧ Hid (xs.Nodup ∧ ∀ v : Int, v ∈ xs ↔ v ∈ kl ∧ left (.int .i64 v) = false) ∧ wr.ownsRow (wo.heap.size + 1) 3 1 (.slice ao xs.length cp) xs.length (xs.map (.int .i64)) ∧ Below w.heap.size w wr ∧ wo.heap.size + 1 ≤ wr.heap.size) (fun _ _ wr => wr.rangeLeft w.heap.size wo.heap.size)
      case atStart =>
        refine ⟨[], none, 0, _, _, rfl, hrg0, hide ⟨by simp, fun v => ?_⟩, World.ownsRow_nil _ _ _ _, hbs, by omega⟩
        rw [hKn.has v]
        simp
      case round =>
        obtain ⟨xs, ao, cp, left, cnt, rfl, hrg, hX, ho, hb9, hs9⟩ := hrel
        have hxl : xs.length ≤ N := pigeon N xs hX.out.1 (fun v hv => hrange.out v ((hX.out.2 v).1 hv).1)
        go_wp2_with (first
          | (at_next; refine wpList_next_ranges_ii _ rfl _ rfl 3 3 .i64 .i64 lawI Try.underlying3 Try.underlying3 w.heap.size wo.heap.size kl.length _ _ _ rfl hrg ?_ ?_)
          | go_in)
        · intro _ hl0
          have hV := hide (show IsRch (N : Int) es (f : Int) (xs.mergeSort fun x y => decide (x ≤ y)) from ⟨sorted_strict hX.out.1, fun v => by
            rw [List.mem_mergeSort, hX.out.2 v, hl0]
            constructor
            · rintro ⟨h, -⟩; exact ⟨hrange.out v h, (hK.out v).1 h⟩
            · rintro ⟨-, h⟩; exact ⟨(hK.out v).2 h, rfl⟩⟩)
          have hne : 0 < xs.length := by
            have hfk : (f : Int) ∈ kl := (hK.out (f : Int)).2 ⟨[], 0, .nil _⟩
            have := (hX.out.2 (f : Int)).2 ⟨hfk, hl0 _⟩
            exact List.length_pos_of_mem this
          have hxm : (xs.mergeSort fun x y => decide (x ≤ y)).length = xs.length := by simp
          obtain ⟨g, rfl⟩ : ∃ g, ao = some ⟨g, 0, none⟩ := by
            rcases ho.2 with ⟨e, h0⟩ | ⟨g, c, cur, e, _⟩
            · omega
            · simp only [Value.slice.injEq] at e; exact ⟨g, e.1⟩
          have hgB := own_from ho (Nat.le_refl _) g rfl
          have CS := cSortOwn _ g cp xs wr ho (by omega)
          clear hX hK hl0 hrange hrg
          go_wp2_with fail
          refine CS.mono ?_
          rintro e w3 ⟨rfl, hg3, ho3⟩
          have hb10 := hb9.grown hg3 hb9.size (fun j hj => by cases hj; omega)
          clear CS
          obtain ⟨ys, hys⟩ : ∃ ys, (xs.mergeSort fun x y => decide (x ≤ y)) = ys := ⟨_, rfl⟩
          rw [hys] at hV hxm ho3
          have hxm := hide hxm
          go_wp2
          go_ret
          exact ⟨some ⟨g, 0, none⟩, cp, ys, by rw [hxm.out]; rfl, hV.out, by rw [hxm.out]; exact own_base ho3 (by omega), hb10⟩
        · intro y c w2 cnt1 hwx hwc hlx hat hrg1 hlt2 hg1 hs1 hen
          have hyk : y ∈ kl := by
            have := hKn.has y
            rw [Maps.has_true_of_atKey hat] at this
            simpa using this.symm
          have hny : y ∉ xs := fun h => by have := ((hX.out.2 y).1 h).2; rw [hlx] at this; cases this
          have hX2 := hide (show (xs ++ [y]).Nodup ∧ ∀ v : Int, v ∈ xs ++ [y] ↔ v ∈ kl ∧ (left (.int .i64 v) && !(Lit.int .i64 v).sameKey (.int .i64 y)) = false from ⟨by
            rw [List.nodup_append]
            exact ⟨hX.out.1, by simp, fun a ha b hb => by simp at hb; subst hb; intro e; subst e; exact hny ha⟩, fun v => by
            rw [List.mem_append, hX.out.2 v]
            by_cases e : v = y
            · subst e
              have : (Lit.int .i64 v).sameKey (.int .i64 v) = true := WideAt.sameKey_self trivial
              simp [this, hyk]
            · have : (Lit.int .i64 v).sameKey (.int .i64 y) = false := Maps.sameKey_ne (by simpa using e)
              simp [this, e]⟩)
          have hb8 := hb9.grown hg1 hb9.size (fun j hj => by cases hj; omega)
          have ho1 := own_far ho hg1 (fun k hk e => by cases e; have := own_from ho (Nat.le_refl _) _ hk; omega)
          have hob := own_from ho1 (Nat.le_refl _)
          have hA := balloc w2 (.cells #[.int .i64 y] 3)
          have hoA := own_keep ho1 hA
          have hrA := hrg1.alloc (.cells #[.int .i64 y] 3)
          have hbA := btrans hb8 hA
          have hs2 : wo.heap.size + 1 ≤ w2.heap.size := by omega
          clear hX ho ho1 hA hrg1 hb8 hat hwx hwc hlx hg1 hs1
          go_wp2_with (at_builtin; refine wpList_append_own _ rfl _ _ 29 rfl (wo.heap.size + 1) 3 i1 (.int .i64 0) 1 8 Try.underlying29 hi1 hy0 hy1 hy2 rfl (by decide) _ _ _ rfl hoA ⟨w2.heap.size, 0, none⟩ 1 1 [.int .i64 y] rfl rfl ?c1 ?c2 ?c3 ?c4 ?c5 ?_)
          case c1 => exact cell_one_new _ _ _
          case c2 => intro x hx; simp at hx; subst hx; rfl
          case c3 => unfold maxLen; omega
          case c4 => omega
          case c5 => simp; omega
          intro v5 w5 hown hgrow _
          obtain ⟨a5, c5, rfl⟩ := own_form hown
          have hr5 := hrA.kept hgrow (fun e => by have := hob _ e.symm; omega) (fun e => by have := hob _ e.symm; omega)
          have hb5 := hbA.grown hgrow hbA.size (fun j e => by have := hob j e; omega)
          have ho5 : w5.ownsRow (wo.heap.size + 1) 3 1 (.slice a5 (xs ++ [y]).length c5) (xs ++ [y]).length ((xs ++ [y]).map (.int .i64)) := by
            rw [List.length_append, List.map_append]; exact hown
          have hs5 : wo.heap.size + 1 ≤ w5.heap.size := by have := hgrow.size; simp at this; omega
          clear hown hgrow hoA hrA hbA
          go_wp2
          go_roundw
          case rel => exact ⟨xs ++ [y], a5, c5, _, _, by simp, hr5, hX2, ho5, hb5, hs5⟩
          case measure => rw [hr5.left_eq, hrg.left_eq]; exact hlt2
    | cons x Q =>
      obtain ⟨qg, qo, qc, rfl, hqB, hqlt, hqn, hqcell⟩ := O.qu.cell
      have hxk := O.ri.known x List.mem_cons_self
      have hxr := O.rng x hxk
      obtain ⟨xn, rfl⟩ : ∃ xn : Nat, x = (xn : Int) := ⟨x.toNat, by omega⟩
      have hxN : xn < N := by omega
      have q0 := hqcell 0 (by simp)
      simp only [Nat.add_zero, List.getD_cons_zero] at q0
      have hlk := (L.below O.bel).look_run hxN (by omega)
      have HS0 := L.own xn hxN
      obtain ⟨va, vc, hva⟩ := own_form HS0
      rw [hva] at hlk HS0
      have HS := Steps.own HS0
      obtain ⟨vn, hvn⟩ : ∃ vn, (rowsTo es es.length xn).length = vn := ⟨_, rfl⟩
      have hvl := rowsTo_len es es.length xn
      rw [hvn] at hlk hvl
      have hvs : (stepsOf es (xn : Int)).length = vn := by rw [← hvn]; unfold rowsTo stepsOf; rw [List.length_map]
      have I0 : InI w wr es (f : Int) (xn : Int) N 0 (2 * (N - kl.length) + Q.length) (.slice (some ⟨qg, qo, none⟩) (Q.length + 1) qc) kl Q DM :=
        ⟨O.qu, O.kn, O.ri.mid, O.rng, by have := O.few; simpa using this, Nat.le_refl _, O.bel⟩
      have hMea := hide (show knSize wr w.heap.size = kl.length from O.kn.sz)
      have hq1 : (0 : Int) < ((Q.length + 1 : Nat) : Int) := by omega
      have hq2 : ((Q.length + 1 : Nat) : Int) = (Q.length : Int) + 1 := by omega
      have hl1 : (Q.length + 1 : Nat) ≤ 1000 := by have := O.few; simp at this; omega
      obtain ⟨M0, hM0⟩ : ∃ M0, 2 * (N - kl.length) + Q.length = M0 := ⟨_, rfl⟩
      rw [hM0] at I0
      rw [List.length_cons]
      replace hvn := hide hvn
      replace hvs := hide hvs
      replace hM0 := hide hM0
      clear O hqcell hxk hxr hva HS0
      go_wp2
      clear q0 hlk
      obtain ⟨wo, rfl⟩ : ∃ wo, wo = wr := ⟨wr, rfl⟩
      go_loopw [6, 8, 9, 10, 29] (fun qv _ _ _ kv wr => ∃ (k : Nat) (kl Q : List Int) (DM : DataW Unit), k ≤ vn ∧ kv = .int .i64 k ∧ InI w wr es (f : Int) (xn : Int) N k M0 qv kl Q DM) (fun _ _ _ _ kv _ => vn - (intOf kv).toNat)
      case atStart => exact ⟨0, _, _, _, Nat.zero_le _, rfl, I0⟩
      case round =>
        clear I0 hq1 hq2 hl1 hqB hqlt hqn hkl
        obtain ⟨k, kl, Q, DM, hkv, rfl, I⟩ := hrel
        have hkl := pigeon N kl I.kn.nodup I.rng
        obtain ⟨qg, qo, qc, rfl, hqB, hqlt, hqn, hqcell⟩ := I.qu.cell
        have q0 := hqcell 0 (by simp)
        simp only [Nat.add_zero, List.getD_cons_zero] at q0
        rw [List.length_cons] at hqn ⊢
        have hql : Q.length ≤ 100 := by have := I.few; omega
        by_cases hkl2 : k < vn
        · obtain ⟨p, y, l, hst, hrw⟩ := rows_at (es := es) (m := es.length) (x := xn) (k := k) (by rw [hvn.out]; exact hkl2)
          have hy := (((stepsOf_st R).1 (List.mem_of_getElem? (show (stepsOf es (xn : Int))[k]? = some (p, y, l) from hst))).ends R).2.1
          obtain ⟨vb, vo, rfl, hsc⟩ : ∃ b o, va = some ⟨b, o, none⟩ ∧ ∀ i, i < vn → w.cell? ⟨b, o + i * 3, none⟩ = some (.int .i64 ((rowsTo es es.length xn).getD i StepV.zero).n) ∧ w.cell? ⟨b, o + i * 3 + 1, none⟩ = some (.int .i64 ((rowsTo es es.length xn).getD i StepV.zero).a) ∧ w.cell? ⟨b, o + i * 3 + 2, none⟩ = some (.int .i64 ((rowsTo es es.length xn).getD i StepV.zero).d) := by
            rcases HS with h | ⟨b, o, e, h⟩
            · have := hvn.out; rw [h] at this; simp at this; omega
            · exact ⟨b, o, e, fun i hi => h i (by rw [hvn.out]; exact hi)⟩
          obtain ⟨s0, s1, s2⟩ := hsc k hkl2
          rw [hrw] at s0 s1 s2
          replace s0 := ble I.bel s0
          replace s1 := ble I.bel s1
          replace s2 := ble I.bel s2
          dsimp only at s0 s1 s2
          obtain ⟨pI, hpI⟩ : ∃ pI : Int, (p : Int) = pI := ⟨_, rfl⟩
          rw [hpI] at s0
          have hkz : (k : Int) < (vn : Int) := by omega
          clear hrw hsc hpI
          have hal := balloc wr (.cells #[.int .i64 pI, .int .i64 y, .int .i64 l] 83)
          have X := one_block' wr (.cells #[.int .i64 pI, .int .i64 y, .int .i64 l] 83)
          have IA := I.keep hal
          have q0A := ble hal q0
          obtain ⟨c, ps, hlk, hc⟩ := IA.kn.map.look_ok lawI Try.underlying92 (zeroI _) (plainI (c := 0) (by omega) (by omega)) (keyI (x := y) (by omega) (by omega))
          obtain ⟨c, rfl, -, -⟩ := plainElem_int_inv Try.underlying3 hc
          rw [IA.kn.has y] at hlk
          obtain ⟨x0, x1, x2⟩ := blk3 X
          by_cases hyk : y ∈ kl
          · have IN : RM es (f : Int) (xn : Int) (k + 1) (fun v => v ∈ kl) Q := I.rm.old hst hyk
            have I2 : InI w (wr.alloc (.cells #[.int .i64 pI, .int .i64 y, .int .i64 l] 83)) es (f : Int) (xn : Int) N (k + 1) M0 (.slice (some ⟨qg, qo, none⟩) (Q.length + 1) qc) kl Q DM := ⟨IA.qu, IA.kn, IN, IA.rng, IA.few, IA.mea, IA.bel⟩
            rw [decide_eq_true hyk] at hlk
            clear IA I IN hst
            go_wp2
            go_roundw
            case rel => exact ⟨k + 1, kl, Q, DM, by omega, by go_num, I2⟩
            case measure => simp [intOf]; omega
          · rw [decide_eq_false hyk] at hlk
            have hxl := hide (show kl.length < N by
              have := pigeon N (y :: kl) (List.nodup_cons.2 ⟨hyk, I.kn.nodup⟩) (fun v hv => by
                rcases List.mem_cons.1 hv with rfl | hv
                · exact hy
                · exact I.rng v hv)
              simp at this; omega)
            have hRM := hide (show RM es (f : Int) (xn : Int) (k + 1) (fun v => v ∈ y :: kl) (Q ++ [y]) by have := I.rm.new R hst; rwa [RI.known_cons] at this)
            have hRng := hide (show ∀ v ∈ y :: kl, 0 ≤ v ∧ v < (N : Int) from fun v hv => by
                rcases List.mem_cons.1 hv with rfl | hv
                · exact hy
                · exact I.rng v hv)
            have hFew := hide I.few
            have hMe := hide I.mea
            clear hc I hst
            have hsx : w.heap.size ≠ wr.heap.size := by have := IA.kn.map.lt; have := hqlt; omega
            go_upto_region 10 with fail
            generalize wr.alloc (.cells #[.int .i64 pI, .int .i64 y, .int .i64 l] 83) = w3 at *
            generalize wr.heap.size = xb at *
            refine wp_region_held_drew (S := (fun w' => w'.cell? ⟨xb, 1, none⟩ = some (.int .i64 y) ∧ w'.cell? ⟨qg, qo, none⟩ = some (.int .i64 (xn : Int)))) (by kernel_rfl) ?_ (fun hHeld => ?_)
            · go_keep
            refine wpAnyH_take (i := 0) (v := .map (some w.heap.size)) rfl (by kernel_rfl) (by kernel_rfl) (by kernel_rfl) (fun _ _ _ h => h) (Or.inl ⟨by kernel_rfl, fun w hS => by go_simp⟩) hHeld ?_
            change wpAnyH _ _ _ _ _ _ _ { tmps := List.toArray (_ :: _ :: _ :: _ :: _ :: .map (some w.heap.size) :: .slice (some ⟨qg, qo, none⟩) (Q.length + 1) qc :: _ :: .pointer (some ⟨xb, 0, none⟩) :: _ :: _ :: _ :: _ :: _ :: _ :: _ :: _ :: _ :: _ :: _ :: _ :: _ :: _ :: _ :: _ :: _ :: _ :: _ :: _ :: _ :: _ :: _ :: _ :: _ :: _ :: _ :: _ :: _ :: _ :: _ :: _ :: _ :: .map (some w.heap.size) :: _ :: _ :: _ :: _ :: _ :: _ :: _ :: _ :: _ :: _ :: _ :: _ :: _ :: _ :: _ :: _ :: _ :: _ :: _ :: _ :: _ :: _ :: _ :: _ :: _ :: _ :: _ :: []), defers := [] } _
            refine wpAnyH_take (i := 1) (v := .pointer (some ⟨xb, 1, none⟩)) rfl (by kernel_rfl) (by kernel_rfl) (by kernel_rfl) (fun _ _ _ h => h) (Or.inl ⟨by kernel_rfl, fun w hS => by go_simp⟩) hHeld ?_
            change wpAnyH _ _ _ _ _ _ _ { tmps := List.toArray (_ :: _ :: _ :: _ :: _ :: .map (some w.heap.size) :: .slice (some ⟨qg, qo, none⟩) (Q.length + 1) qc :: _ :: .pointer (some ⟨xb, 0, none⟩) :: _ :: _ :: _ :: _ :: _ :: _ :: _ :: _ :: _ :: _ :: _ :: _ :: _ :: _ :: _ :: _ :: _ :: _ :: _ :: _ :: _ :: _ :: _ :: _ :: _ :: _ :: _ :: _ :: _ :: _ :: _ :: _ :: _ :: .map (some w.heap.size) :: .pointer (some ⟨xb, 1, none⟩) :: _ :: _ :: _ :: _ :: _ :: _ :: _ :: _ :: _ :: _ :: _ :: _ :: _ :: _ :: _ :: _ :: _ :: _ :: _ :: _ :: _ :: _ :: _ :: _ :: _ :: _ :: []), defers := [] } _
            refine wpAnyH_take (i := 2) (v := .int .i64 y) rfl (by kernel_rfl) (by kernel_rfl) (by kernel_rfl) (fun _ _ _ h => h) (Or.inl ⟨by kernel_rfl, fun w hS => by (obtain ⟨hS0, hS1⟩ := hS; go_simp)⟩) hHeld ?_
            change wpAnyH _ _ _ _ _ _ _ { tmps := List.toArray (_ :: _ :: _ :: _ :: _ :: .map (some w.heap.size) :: .slice (some ⟨qg, qo, none⟩) (Q.length + 1) qc :: _ :: .pointer (some ⟨xb, 0, none⟩) :: _ :: _ :: _ :: _ :: _ :: _ :: _ :: _ :: _ :: _ :: _ :: _ :: _ :: _ :: _ :: _ :: _ :: _ :: _ :: _ :: _ :: _ :: _ :: _ :: _ :: _ :: _ :: _ :: _ :: _ :: _ :: _ :: _ :: .map (some w.heap.size) :: .pointer (some ⟨xb, 1, none⟩) :: .int .i64 y :: _ :: _ :: _ :: _ :: _ :: _ :: _ :: _ :: _ :: _ :: _ :: _ :: _ :: _ :: _ :: _ :: _ :: _ :: _ :: _ :: _ :: _ :: _ :: _ :: _ :: []), defers := [] } _
            refine wpAnyH_take (i := 3) (v := .map (some w.heap.size)) rfl (by kernel_rfl) (by kernel_rfl) (by kernel_rfl) (fun _ _ _ h => h) (Or.inl ⟨by kernel_rfl, fun w hS => by go_simp⟩) hHeld ?_
            change wpAnyH _ _ _ _ _ _ _ { tmps := List.toArray (_ :: _ :: _ :: _ :: _ :: .map (some w.heap.size) :: .slice (some ⟨qg, qo, none⟩) (Q.length + 1) qc :: _ :: .pointer (some ⟨xb, 0, none⟩) :: _ :: _ :: _ :: _ :: _ :: _ :: _ :: _ :: _ :: _ :: _ :: _ :: _ :: _ :: _ :: _ :: _ :: _ :: _ :: _ :: _ :: _ :: _ :: _ :: _ :: _ :: _ :: _ :: _ :: _ :: _ :: _ :: _ :: .map (some w.heap.size) :: .pointer (some ⟨xb, 1, none⟩) :: .int .i64 y :: .map (some w.heap.size) :: _ :: _ :: _ :: _ :: _ :: _ :: _ :: _ :: _ :: _ :: _ :: _ :: _ :: _ :: _ :: _ :: _ :: _ :: _ :: _ :: _ :: _ :: _ :: _ :: []), defers := [] } _
            refine wpAnyH_take (i := 4) (v := .slice (some ⟨qg, qo, none⟩) (Q.length + 1) qc) rfl (by kernel_rfl) (by kernel_rfl) (by kernel_rfl) (fun _ _ _ h => h) (Or.inl ⟨by kernel_rfl, fun w hS => by go_simp⟩) hHeld ?_
            change wpAnyH _ _ _ _ _ _ _ { tmps := List.toArray (_ :: _ :: _ :: _ :: _ :: .map (some w.heap.size) :: .slice (some ⟨qg, qo, none⟩) (Q.length + 1) qc :: _ :: .pointer (some ⟨xb, 0, none⟩) :: _ :: _ :: _ :: _ :: _ :: _ :: _ :: _ :: _ :: _ :: _ :: _ :: _ :: _ :: _ :: _ :: _ :: _ :: _ :: _ :: _ :: _ :: _ :: _ :: _ :: _ :: _ :: _ :: _ :: _ :: _ :: _ :: _ :: .map (some w.heap.size) :: .pointer (some ⟨xb, 1, none⟩) :: .int .i64 y :: .map (some w.heap.size) :: .slice (some ⟨qg, qo, none⟩) (Q.length + 1) qc :: _ :: _ :: _ :: _ :: _ :: _ :: _ :: _ :: _ :: _ :: _ :: _ :: _ :: _ :: _ :: _ :: _ :: _ :: _ :: _ :: _ :: _ :: _ :: []), defers := [] } _
            refine wpAnyH_take (i := 5) (v := .pointer (some ⟨qg, qo, none⟩)) rfl (by kernel_rfl) (by kernel_rfl) (by kernel_rfl) (fun _ _ _ h => h) (Or.inl ⟨by kernel_rfl, fun w hS => by go_simp⟩) hHeld ?_
            change wpAnyH _ _ _ _ _ _ _ { tmps := List.toArray (_ :: _ :: _ :: _ :: _ :: .map (some w.heap.size) :: .slice (some ⟨qg, qo, none⟩) (Q.length + 1) qc :: _ :: .pointer (some ⟨xb, 0, none⟩) :: _ :: _ :: _ :: _ :: _ :: _ :: _ :: _ :: _ :: _ :: _ :: _ :: _ :: _ :: _ :: _ :: _ :: _ :: _ :: _ :: _ :: _ :: _ :: _ :: _ :: _ :: _ :: _ :: _ :: _ :: _ :: _ :: _ :: .map (some w.heap.size) :: .pointer (some ⟨xb, 1, none⟩) :: .int .i64 y :: .map (some w.heap.size) :: .slice (some ⟨qg, qo, none⟩) (Q.length + 1) qc :: .pointer (some ⟨qg, qo, none⟩) :: _ :: _ :: _ :: _ :: _ :: _ :: _ :: _ :: _ :: _ :: _ :: _ :: _ :: _ :: _ :: _ :: _ :: _ :: _ :: _ :: _ :: _ :: []), defers := [] } _
            refine wpAnyH_take (i := 6) (v := .int .i64 (xn : Int)) rfl (by kernel_rfl) (by kernel_rfl) (by kernel_rfl) (fun _ _ _ h => h) (Or.inl ⟨by kernel_rfl, fun w hS => by (obtain ⟨hS0, hS1⟩ := hS; go_simp)⟩) hHeld ?_
            change wpAnyH _ _ _ _ _ _ _ { tmps := List.toArray (_ :: _ :: _ :: _ :: _ :: .map (some w.heap.size) :: .slice (some ⟨qg, qo, none⟩) (Q.length + 1) qc :: _ :: .pointer (some ⟨xb, 0, none⟩) :: _ :: _ :: _ :: _ :: _ :: _ :: _ :: _ :: _ :: _ :: _ :: _ :: _ :: _ :: _ :: _ :: _ :: _ :: _ :: _ :: _ :: _ :: _ :: _ :: _ :: _ :: _ :: _ :: _ :: _ :: _ :: _ :: _ :: .map (some w.heap.size) :: .pointer (some ⟨xb, 1, none⟩) :: .int .i64 y :: .map (some w.heap.size) :: .slice (some ⟨qg, qo, none⟩) (Q.length + 1) qc :: .pointer (some ⟨qg, qo, none⟩) :: .int .i64 (xn : Int) :: _ :: _ :: _ :: _ :: _ :: _ :: _ :: _ :: _ :: _ :: _ :: _ :: _ :: _ :: _ :: _ :: _ :: _ :: _ :: _ :: _ :: []), defers := [] } _
            have hb3 : Below w3.heap.size w3 w3.drew := bdraw (Below.refl _ _) 1
            have ID := IA.keep hb3
            obtain ⟨d, d0, d1, hlk4⟩ := ID.kn.look_run (y := (xn : Int)) (by omega) (by omega)
            have hwr : IntKind.i64.wrap (d + 1) = d + 1 := wrap_in _ (by omega) (by omega)
            refine wpAnyH_ready (rs := [7]) (by kernel_rfl) (by simp) ?_
            refine (AllReadyH.cons rfl (fun KK hK => ?_) AllReadyH.nil)
            go_simp
            clear hHeld
            refine hK.out _ _ (⟨x1, q0A⟩) (fun hHeld => ?_)
            clear hK KK
            change wpAnyH _ _ _ _ _ _ _ { tmps := List.toArray (_ :: _ :: _ :: _ :: _ :: .map (some w.heap.size) :: .slice (some ⟨qg, qo, none⟩) (Q.length + 1) qc :: _ :: .pointer (some ⟨xb, 0, none⟩) :: _ :: _ :: _ :: _ :: _ :: _ :: _ :: _ :: _ :: _ :: _ :: _ :: _ :: _ :: _ :: _ :: _ :: _ :: _ :: _ :: _ :: _ :: _ :: _ :: _ :: _ :: _ :: _ :: _ :: _ :: _ :: _ :: _ :: .map (some w.heap.size) :: .pointer (some ⟨xb, 1, none⟩) :: .int .i64 y :: .map (some w.heap.size) :: .slice (some ⟨qg, qo, none⟩) (Q.length + 1) qc :: .pointer (some ⟨qg, qo, none⟩) :: .int .i64 (xn : Int) :: .int .i64 d :: _ :: _ :: _ :: _ :: _ :: _ :: _ :: _ :: _ :: _ :: _ :: _ :: _ :: _ :: _ :: _ :: _ :: _ :: _ :: _ :: []), defers := [] } _
            refine wpAnyH_take (i := 8) (v := .int .i64 (d + 1)) rfl (by kernel_rfl) (by kernel_rfl) (by kernel_rfl) (fun _ _ _ h => h) (Or.inl ⟨by kernel_rfl, fun w hS => by go_simp⟩) hHeld ?_
            change wpAnyH _ _ _ _ _ _ _ { tmps := List.toArray (_ :: _ :: _ :: _ :: _ :: .map (some w.heap.size) :: .slice (some ⟨qg, qo, none⟩) (Q.length + 1) qc :: _ :: .pointer (some ⟨xb, 0, none⟩) :: _ :: _ :: _ :: _ :: _ :: _ :: _ :: _ :: _ :: _ :: _ :: _ :: _ :: _ :: _ :: _ :: _ :: _ :: _ :: _ :: _ :: _ :: _ :: _ :: _ :: _ :: _ :: _ :: _ :: _ :: _ :: _ :: _ :: .map (some w.heap.size) :: .pointer (some ⟨xb, 1, none⟩) :: .int .i64 y :: .map (some w.heap.size) :: .slice (some ⟨qg, qo, none⟩) (Q.length + 1) qc :: .pointer (some ⟨qg, qo, none⟩) :: .int .i64 (xn : Int) :: .int .i64 d :: .int .i64 (d + 1) :: _ :: _ :: _ :: _ :: _ :: _ :: _ :: _ :: _ :: _ :: _ :: _ :: _ :: _ :: _ :: _ :: _ :: _ :: _ :: []), defers := [] } _
            obtain ⟨w9, hrun9, om9, hg9⟩ := World.ownsMap.update ID.kn.map lawI Try.underlying92 (by unfold maxLen; omega) (keyI (x := y) (by omega) (by omega)) (plainI (c := d + 1) (by omega) (by omega))
            have XD : w3.drew.heap[xb]? = some (.cells #[.int .i64 pI, .int .i64 y, .int .i64 l] 83 (0, 0)) := X
            have X9 := far_blk hg9 XD (fun j hj => by cases hj; exact hsx)
            have Q9 := ID.qu.far hg9 (fun j hj e => by cases hj; simp [Value.ownBlock] at e; omega)
            have K9 := ID.kn.put (y := y) (c := d + 1) hyk (by omega) (by omega) om9
            have HB9 := ID.bel.grown hg9 ID.bel.size (fun j hj => by cases hj; exact Nat.le_refl _)
            obtain ⟨-, x9, -⟩ := blk3 X9
            obtain ⟨g2, o2, c2, e2, -, -, -, hq9⟩ := Q9.cell
            simp only [Value.slice.injEq, Option.some.injEq, Addr.mk.injEq, and_true] at e2
            obtain ⟨⟨rfl, rfl⟩, -, rfl⟩ := e2
            have q9 := hq9 0 (by simp)
            simp only [Nat.add_zero, List.getD_cons_zero] at q9
            refine wpAnyH_ready (rs := [9]) (by kernel_rfl) (by simp) ?_
            refine (AllReadyH.cons rfl (fun KK hK => ?_) AllReadyH.nil)
            go_simp
            clear hHeld
            refine hK.out _ _ (⟨x9, q9⟩) (fun hHeld => ?_)
            clear hK KK
            change wpAnyH _ _ _ _ _ _ _ { tmps := List.toArray (_ :: _ :: _ :: _ :: _ :: .map (some w.heap.size) :: .slice (some ⟨qg, qo, none⟩) (Q.length + 1) qc :: _ :: .pointer (some ⟨xb, 0, none⟩) :: _ :: _ :: _ :: _ :: _ :: _ :: _ :: _ :: _ :: _ :: _ :: _ :: _ :: _ :: _ :: _ :: _ :: _ :: _ :: _ :: _ :: _ :: _ :: _ :: _ :: _ :: _ :: _ :: _ :: _ :: _ :: _ :: _ :: .map (some w.heap.size) :: .pointer (some ⟨xb, 1, none⟩) :: .int .i64 y :: .map (some w.heap.size) :: .slice (some ⟨qg, qo, none⟩) (Q.length + 1) qc :: .pointer (some ⟨qg, qo, none⟩) :: .int .i64 (xn : Int) :: .int .i64 d :: .int .i64 (d + 1) :: _ :: _ :: _ :: _ :: _ :: _ :: _ :: _ :: _ :: _ :: _ :: _ :: _ :: _ :: _ :: _ :: _ :: _ :: _ :: []), defers := [] } _
            refine wpAnyH_done (by kernel_rfl) ?_ _
            clear hlk4 hrun9 om9 hg9 X XD x0 x1 x2 q0A ID IA hb3 hq9
            have hal9 := balloc w9 (.cells #[.int .i64 y] 3)
            obtain ⟨v2, w10, hr, Q10, hg10⟩ := (Q9.below hal9).push y ⟨w9.heap.size, 0, none⟩ 1 (by simp) rfl (by simp; omega) (by have := HB9.size; have := hal9.size; simp at this ⊢; omega)
            have hgB : ∀ j, (Value.slice (some ⟨qg, qo, none⟩) (Q.length + 1) qc).ownBlock = some j → w.heap.size + 1 ≤ j := fun j hj => by simp [Value.ownBlock] at hj; omega
            have K10 := (K9.below hal9).far hg10 (fun e => by have := hgB _ e.symm; omega)
            have HB10 := (btrans HB9 hal9).grown hg10 (btrans HB9 hal9).size (fun j hj => by have := hgB j hj; omega)
            have I2 : InI w w10 es (f : Int) (xn : Int) N (k + 1) M0 v2 (y :: kl) (Q ++ [y]) _ := ⟨Q10, K10, hRM.out, hRng.out, by have := hFew.out; simp; omega, by have := hMe.out; have := hxl.out; simp; omega, HB10⟩
            obtain ⟨g2, o2, c2, cur2, rfl, -⟩ := Q10
            rw [show ((xn : Int) :: Q ++ [y]).length = Q.length + 1 + 1 by simp] at I2 hr
            clear K9 Q9 HB9 K10 HB10 hg10 hal9 hgB hRM hRng hFew hMe hxl
            go_wp2_with (at_builtin; refine Go.Lib.wpList_append_run _ rfl _ _ _ _ rfl _ _ rfl rfl _ _ hr ?_)
            go_wp2
            go_roundw
            case rel => exact ⟨k + 1, _, _, _, by omega, by go_num, I2⟩
            case measure => simp [intOf]; omega
        · obtain rfl : k = vn := by omega
          have OR := I.rm.end R (by rw [hvs.out]; exact Nat.le_refl _)
          have c0 : (0 : Int) ≤ 1 := by omega
          have c1 : (1 : Int) ≤ (Q.length : Int) + 1 := by omega
          have c2 : (Q.length : Int) + 1 ≤ (qc : Int) := by omega
          have hMe := hide I.mea
          have O2 := fun o2 ho ho2 => (show OutI w wr es (f : Int) N (.slice (some ⟨qg, o2, none⟩) Q.length (qc - 1)) kl Q DM from ⟨I.qu.tail o2 ho ho2, I.kn, OR, I.rng, by have := I.few; omega, I.bel⟩)
          have hsz := hide I.kn.sz
          clear I OR hqcell
          by_cases hc1 : qc = 1
          · obtain rfl : qc = 1 := hc1
            have hQ0 : Q.length = 0 := by omega
            have O3 := O2 qo (fun h => by omega) (.inr rfl)
            clear O2
            go_wp2
            go_roundw
            case rel => exact ⟨kl, Q, DM, by simpa [hQ0] using O3⟩
            case measure =>
              have h1 := hMe.out
              have h2 := hM0.out
              have h3 := hMea.out
              have h4 := hsz.out
              simp [lenOf]; omega
          · have c3 : (qc : Int) ≠ 1 := by omega
            have O3 := O2 (qo + 1) (fun _ => rfl) (.inl rfl)
            clear O2
            go_wp2
            go_roundw
            case rel => exact ⟨kl, Q, DM, by simpa using O3⟩
            case measure =>
              have h1 := hMe.out
              have h2 := hM0.out
              have h3 := hMea.out
              have h4 := hsz.out
              simp [lenOf]; omega
end Go.Proofs.Ytdjambejppanoaa
